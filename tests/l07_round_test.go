package tests

import (
	"math"
	"math/rand/v2"
	"testing"

	"loop.example/g03320/impl"
)

// downTold tells x rounded down, in other words than the program: it halves the ranks up to the last single that is not
// greater than x.
func downTold(x float64) float32 {
	if x != x {
		return notANumber()
	}
	low, high := -infiniteRank, infiniteRank
	for low < high {
		middle := high - (high-low)/2
		if float64(ofRank(middle)) > x {
			high = middle - 1
		} else {
			low = middle
		}
	}
	// Of 0 there are two: beyond half the least single, x is narrowed to that one, and the next one down is -0.
	if low == 0 && (x > leastSingle/2 || math.Signbit(x)) {
		return minusZero()
	}
	return ofRank(low)
}

// upTold tells x rounded up, in other words than the program.
func upTold(x float64) float32 { return flipped(downTold(reversed(x))) }

// beside returns x and the floats just below and just above it.
func beside(x float64) []float64 {
	return []float64{x, math.Nextafter(x, math.Inf(-1)), math.Nextafter(x, math.Inf(1))}
}

// manyDoubles returns floats that are singles, lie half-way between two neighbors, or just beside these, and any others.
func manyDoubles() []float64 {
	out := []float64{math.NaN(), math.MaxFloat64, -math.MaxFloat64, math.SmallestNonzeroFloat64, -math.SmallestNonzeroFloat64, 0x1p128, -0x1p128, 0x1.ffffffp127, -0x1.ffffffp127}
	for i, x := range manySingles() {
		out = append(out, beside(float64(x))...)
		if next := float64(nextTold(x)); i%3 == 0 && next-next == 0 {
			out = append(out, beside((float64(x)+next)/2)...)
			out = append(out, float64(x)*0.75+next*0.25, float64(x)*0.25+next*0.75)
		}
	}
	source := rand.New(rand.NewPCG(7, 24))
	for range 20000 {
		out = append(out, math.Float64frombits(source.Uint64()), float64(finiteSingle(source))*(1+source.Float64()*0x1p-20))
	}
	return out
}

// holdsRounded asks for x rounded down and up, and for the same with all signs turned.
func holdsRounded(t *testing.T, x float64, down float32, up float32) {
	t.Helper()
	if got := impl.RoundDown(x); !sameBits(got, down) {
		t.Errorf("RoundDown(%x) = %g; want %g", x, got, down)
	}
	if got := impl.RoundUp(x); !sameBits(got, up) {
		t.Errorf("RoundUp(%x) = %g; want %g", x, got, up)
	}
	x = reversed(x)
	if got := impl.RoundDown(x); !sameBits(got, flipped(up)) {
		t.Errorf("RoundDown(%x) = %g; want %g", x, got, flipped(up))
	}
	if got := impl.RoundUp(x); !sameBits(got, flipped(down)) {
		t.Errorf("RoundUp(%x) = %g; want %g", x, got, flipped(down))
	}
}

func TestSinglesAreRoundedToThemselves(t *testing.T) {
	for _, x := range append(manySingles(), 0, minusZero(), 1, 0.1, leastSingle, greatestSingle, infinite(1), notANumber()) {
		holdsRounded(t, float64(x), x, x)
	}
}

func TestNumbersBetweenTwoSingles(t *testing.T) {
	const gap = 0x1p-23
	// Nearer to the one, half-way (narrowed to the even one: 1, and then 1 + 2*gap), nearer to the other.
	holdsRounded(t, 1+0x1p-52, 1, 1+gap)
	holdsRounded(t, 1+gap*0.25, 1, 1+gap)
	holdsRounded(t, 1+gap*0.5, 1, 1+gap)
	holdsRounded(t, 1+gap*0.75, 1, 1+gap)
	holdsRounded(t, 1+gap-0x1p-52, 1, 1+gap)
	holdsRounded(t, 1+gap*1.25, 1+gap, 1+2*gap)
	holdsRounded(t, 1+gap*1.5, 1+gap, 1+2*gap)
	holdsRounded(t, 1+gap*1.75, 1+gap, 1+2*gap)
	// Below a power of 2 the gap is half as wide.
	holdsRounded(t, 1-0x1p-53, 1-0x1p-24, 1)
	holdsRounded(t, 1-0x1p-25, 1-0x1p-24, 1)
	holdsRounded(t, 0.1, 0x1.999998p-4, 0x1.99999ap-4)
	holdsRounded(t, 1.0/3, 0x1.555554p-2, 0x1.555556p-2)
	holdsRounded(t, 0x1p24+1, 0x1p24, 0x1p24+2)
	holdsRounded(t, 0x1p24+3, 0x1p24+2, 0x1p24+4)
	holdsRounded(t, 1.000000000001, 1, 1+gap)
}

func TestNumbersAtZero(t *testing.T) {
	const least = leastSingle
	minus := minusZero()
	holdsRounded(t, 0, 0, 0)
	holdsRounded(t, math.Copysign(0, -1), minus, minus)
	// Up to half the least single, x is narrowed to 0; beyond, to the least one, from which the next one down is -0.
	holdsRounded(t, math.SmallestNonzeroFloat64, 0, least)
	holdsRounded(t, least*0.25, 0, least)
	holdsRounded(t, least*0.5, 0, least)
	holdsRounded(t, math.Nextafter(least*0.5, 1), minus, least)
	holdsRounded(t, least*0.75, minus, least)
	holdsRounded(t, math.Nextafter(least, 0), minus, least)
	holdsRounded(t, math.Nextafter(least, 1), least, 2*least)
	holdsRounded(t, least*1.25, least, 2*least)
	holdsRounded(t, least*1.5, least, 2*least)
	holdsRounded(t, least*1.75, least, 2*least)
	holdsRounded(t, least*2.5, 2*least, 3*least)
	holdsRounded(t, 0x1p-126-least*0.5, 0x0.fffffep-126, 0x1p-126)
	holdsRounded(t, 0x1p-126-least*0.25, 0x0.fffffep-126, 0x1p-126)
	holdsRounded(t, 0x1p-126+least*0.5, 0x1p-126, 0x1.000002p-126)
	holdsRounded(t, 0x1p-1022, 0, least)
}

func TestNumbersBeyondTheGreatestSingle(t *testing.T) {
	const top, half = greatestSingle, 0x1.ffffffp127
	inf := infinite(1)
	holdsRounded(t, math.Nextafter(top, 0), 0x1.fffffcp127, top)
	holdsRounded(t, math.Nextafter(top, math.Inf(1)), top, inf)
	// Narrowed to the greatest one, and from half on to the infinite one.
	holdsRounded(t, math.Nextafter(half, 0), top, inf)
	holdsRounded(t, half, top, inf)
	holdsRounded(t, 0x1p128, top, inf)
	holdsRounded(t, 2*top, top, inf)
	holdsRounded(t, 1e300, top, inf)
	holdsRounded(t, math.MaxFloat64, top, inf)
	holdsRounded(t, math.Inf(1), inf, inf)
	holdsRounded(t, math.Inf(-1), infinite(-1), infinite(-1))
	holdsRounded(t, math.NaN(), notANumber(), notANumber())
}

func TestManyNumbersAreRounded(t *testing.T) {
	for _, x := range manyDoubles() {
		holdsRounded(t, x, downTold(x), upTold(x))
	}
}

// TestNumbersLieBetweenThemselvesRounded is the second part of P7.
func TestNumbersLieBetweenThemselvesRounded(t *testing.T) {
	apart := 0
	for _, x := range manyDoubles() {
		if x != x {
			continue
		}
		down, up := impl.RoundDown(x), impl.RoundUp(x)
		if !(float64(down) <= x && x <= float64(up)) {
			t.Errorf("%x does not lie between %g and %g", x, down, up)
		}
		gap := rank(up) - rank(down)
		if isSingle := float64(float32(x)) == x; gap != 0 && gap != 1 || isSingle != (gap == 0) {
			t.Errorf("%x is rounded to %g and %g", x, down, up)
		}
		apart += gap
	}
	if apart < 10000 {
		t.Error("only", apart, "numbers lie between two singles")
	}
}
