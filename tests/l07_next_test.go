package tests

import (
	"math"
	"testing"

	"loop.example/g03320/impl"
)

// infiniteRank is the rank of the infinite single with the sign +.
const infiniteRank = 0x7f800000

// rank numbers the singles from the least to the greatest, without a gap; 0 and -0 both have 0.
func rank(x float32) int {
	amount := int(math.Float32bits(x) &^ (1 << 31))
	if math.Signbit(float64(x)) {
		return -amount
	}
	return amount
}

// ofRank returns the single with this rank; 0 without the sign.
func ofRank(n int) float32 {
	if n < 0 {
		return math.Float32frombits(uint32(-n) | 1<<31)
	}
	return math.Float32frombits(uint32(n))
}

// nextTold tells the next single above x, in other words than the program.
func nextTold(x float32) float32 {
	if x != x || rank(x) == infiniteRank {
		return x
	}
	return ofRank(rank(x) + 1)
}

// holdsNext asks for the next single above x, and for the next one below the same with the sign turned.
func holdsNext(t *testing.T, x float32, want float32) {
	t.Helper()
	if got := impl.NextUp(x); !sameBits(got, want) {
		t.Errorf("NextUp(%g) = %g; want %g", x, got, want)
	}
	if got := impl.NextDown(flipped(x)); !sameBits(got, flipped(want)) {
		t.Errorf("NextDown(%g) = %g; want %g", flipped(x), got, flipped(want))
	}
}

func TestNextAtZero(t *testing.T) {
	const least = leastSingle
	holdsNext(t, 0, least)
	holdsNext(t, minusZero(), least)
	holdsNext(t, least, 2*least)
	// The 0 behind the greatest one below it has no sign; that of NextDown has one.
	holdsNext(t, -least, 0)
	holdsNext(t, -2*least, -least)
	holdsNext(t, 3*least, 4*least)
	holdsNext(t, -4*least, -3*least)
	if got := impl.NextDown(least); !sameBits(got, minusZero()) {
		t.Errorf("NextDown(%g) = %g", float32(least), got)
	}
}

func TestNextAtTheEnds(t *testing.T) {
	const top = greatestSingle
	below := float32(0x1.fffffcp127)
	holdsNext(t, below, top)
	holdsNext(t, top, infinite(1))
	holdsNext(t, infinite(1), infinite(1))
	holdsNext(t, infinite(-1), -top)
	holdsNext(t, -top, -below)
	holdsNext(t, notANumber(), notANumber())
	holdsNext(t, math.Float32frombits(0xffc00123), notANumber())
	holdsNext(t, math.Float32frombits(0x7f800001), notANumber())
}

func TestNextBesidePowersOfTwo(t *testing.T) {
	// The greatest subnormal one, and the least one with 24 bits.
	holdsNext(t, 0x0.fffffep-126, 0x1p-126)
	holdsNext(t, 0x1p-126, 0x1.000002p-126)
	holdsNext(t, -0x1p-126, -0x0.fffffep-126)
	holdsNext(t, -0x1.000002p-126, -0x1p-126)
	holdsNext(t, 0x0.fffffcp-126, 0x0.fffffep-126)
	holdsNext(t, 1, 1+0x1p-23)
	holdsNext(t, 1-0x1p-24, 1)
	holdsNext(t, -1, -1+0x1p-24)
	holdsNext(t, -1-0x1p-23, -1)
	for power := -125; power <= 127; power++ {
		x := scaled(1, power)
		holdsNext(t, x, x+scaled(1, power-23))
		holdsNext(t, -x, -x+scaled(1, power-24))
		holdsNext(t, x-scaled(1, power-24), x)
		holdsNext(t, -x-scaled(1, power-23), -x)
	}
	holdsNext(t, 0x1p24, 0x1p24+2)
	holdsNext(t, 0x1p24-1, 0x1p24)
}

func TestNextOfManySingles(t *testing.T) {
	for _, x := range manySingles() {
		holdsNext(t, x, nextTold(x))
	}
}

// holdsNeighbors asks that y is greater than x and that no single lies between them.
func holdsNeighbors(t *testing.T, x float32, y float32) {
	t.Helper()
	if !(x < y) || rank(y) != rank(x)+1 {
		t.Fatalf("%g and %g are no neighbors", x, y)
	}
}

// TestNextUpLeavesNoSingleOut is the first part of P7.
func TestNextUpLeavesNoSingleOut(t *testing.T) {
	for n := -infiniteRank; n < infiniteRank; n += 1009 {
		x := ofRank(n)
		holdsNeighbors(t, x, impl.NextUp(x))
		holdsNeighbors(t, impl.NextDown(-x), -x)
	}
	for _, x := range manySingles() {
		if x != x {
			continue
		}
		if next := impl.NextUp(x); next != x {
			holdsNeighbors(t, x, next)
			// The number half-way is narrowed to one of both, as nothing is between them.
			half := float32((float64(x) + float64(next)) / 2)
			if half != x && half != next {
				t.Errorf("%g lies between %g and %g", half, x, next)
			}
		}
	}
}

func TestWalksUpAndDown(t *testing.T) {
	for _, start := range []float32{-100 * leastSingle, 0x1p-126 - 100*leastSingle, 1 - 100*0x1p-24, -1 - 100*0x1p-23, 0x1p127 - 100*0x1p103} {
		x := start
		for step := range 200 {
			if rank(x) != rank(start)+step {
				t.Fatalf("step %d up from %g is %g", step, start, x)
			}
			x = impl.NextUp(x)
		}
		for step := range 200 {
			if rank(x) != rank(start)+200-step {
				t.Fatalf("step %d down to %g is %g", step, start, x)
			}
			x = impl.NextDown(x)
		}
		if x != start {
			t.Errorf("up and down from %g is %g", start, x)
		}
	}
}

// Up and down again is the same, apart from the sign of 0 and beside the infinite ones.
func TestNextDownUndoesNextUp(t *testing.T) {
	for _, x := range manySingles() {
		if up := impl.NextUp(x); up != x && x == x {
			if got := impl.NextDown(up); got != x {
				t.Errorf("NextDown(NextUp(%g)) = %g", x, got)
			}
		}
	}
}
