package tests

import (
	"math"
	"math/big"
	"testing"

	"loop.example/g03320/impl"
)

// sameDoubles holds floats against each other by their bits, apart from NaNs, which are all the same.
func sameDoubles(a float64, b float64) bool {
	return a != a && b != b || math.Float64bits(a) == math.Float64bits(b)
}

func sameWide(a complex128, b complex128) bool {
	return sameDoubles(real(a), real(b)) && sameDoubles(imag(a), imag(b))
}

func sameNarrow(a complex64, b complex64) bool {
	return sameBits(real(a), real(b)) && sameBits(imag(a), imag(b))
}

// flipped returns x with its sign turned, by its bits.
func flipped(x float32) float32 { return math.Float32frombits(math.Float32bits(x) ^ 1<<31) }

// scaled returns x times 2 to the power, rounded once, by means of exact numbers.
func scaled(x float32, power int) float32 {
	if x == 0 || x != x || math.IsInf(float64(x), 0) {
		return x
	}
	out, _ := new(big.Float).SetMantExp(big.NewFloat(float64(x)), power).Float32()
	return out
}

// partSingles returns singles of every kind that a part may be.
func partSingles() []float32 {
	var out []float32
	amounts := []float32{0, 1, 3, 0.1, just(1, 1), just(1, -1), leastSingle, 3 * leastSingle, 0x1p-126, just(0x1p-126, -1), 0x1p67, 0x1p68, 1e30, greatestSingle, just(greatestSingle, -1), infinite(1)}
	for _, x := range amounts {
		out = append(out, x, -x)
	}
	return append(out, notANumber(), math.Float32frombits(0xffc00001))
}

// manyNumbers returns all complex numbers with such parts.
func manyNumbers() []complex64 {
	var out []complex64
	for _, re := range partSingles() {
		for _, im := range partSingles() {
			out = append(out, complex(re, im))
		}
	}
	return out
}

func turnOf(quarter int, power int) impl.Turn { return impl.Turn{Quarter: quarter, Power: power} }

// validTurns returns turns with all quarters and with powers that are at a limit, or not.
func validTurns() []impl.Turn {
	var out []impl.Turn
	for quarter := range 4 {
		for _, power := range []int{-impl.MaxPower, 1 - impl.MaxPower, -31, -30, -2, -1, 0, 1, 2, 29, 30, 31, impl.MaxPower - 1, impl.MaxPower} {
			out = append(out, turnOf(quarter, power))
		}
	}
	return out
}

// invalidTurns returns turns with one fault alone, and with two.
func invalidTurns() []impl.Turn {
	quarters := []int{-1, 4, -2, -3, -4, 5, 8, math.MinInt, math.MinInt + 1, math.MaxInt, math.MaxInt - 1}
	powers := []int{impl.MaxPower + 1, -impl.MaxPower - 1, 2 * impl.MaxPower, math.MinInt, math.MinInt + 1, math.MaxInt, math.MaxInt - 1}
	var out []impl.Turn
	for _, quarter := range quarters {
		for _, power := range []int{0, impl.MaxPower, -impl.MaxPower, impl.MaxPower + 1, math.MinInt} {
			out = append(out, turnOf(quarter, power))
		}
	}
	for _, power := range powers {
		for quarter := range 4 {
			out = append(out, turnOf(quarter, power))
		}
	}
	return out
}

func TestTurnOkAtItsLimits(t *testing.T) {
	for _, turn := range validTurns() {
		if !impl.TurnOk(turn) {
			t.Errorf("%v is not valid", turn)
		}
	}
	for _, turn := range invalidTurns() {
		if impl.TurnOk(turn) {
			t.Errorf("%v is valid", turn)
		}
	}
	for quarter := -9; quarter <= 9; quarter++ {
		for power := -130; power <= 130; power++ {
			want := quarter >= 0 && quarter <= 3 && power >= -60 && power <= 60
			if got := impl.TurnOk(turnOf(quarter, power)); got != want {
				t.Errorf("TurnOk(%d, %d) = %v", quarter, power, got)
			}
		}
	}
}

func TestApplyTurnSetsSignsAndPlaces(t *testing.T) {
	cases := []struct {
		quarter int
		z, want complex64
	}{
		{0, complex(3, 4), complex(3, 4)}, {1, complex(3, 4), complex(-4, 3)}, {2, complex(3, 4), complex(-3, -4)}, {3, complex(3, 4), complex(4, -3)},
		{0, complex(-3, 0), complex(-3, 0)}, {1, complex(-3, 0), complex(minusZero(), -3)}, {2, complex(-3, 0), complex(3, minusZero())}, {3, complex(-3, 0), complex(0, 3)},
		{0, complex(minusZero(), 0), complex(minusZero(), 0)}, {1, 0, complex(minusZero(), 0)}, {2, 0, complex(minusZero(), minusZero())}, {3, 0, complex(0, minusZero())},
		{1, complex(notANumber(), 7), complex(-7, notANumber())}, {3, complex(infinite(1), 7), complex(7, infinite(-1))},
	}
	for _, c := range cases {
		if got := impl.ApplyTurn(turnOf(c.quarter, 0), c.z); !sameNarrow(got, c.want) {
			t.Errorf("ApplyTurn(quarter %d, %v) = %v; want %v", c.quarter, c.z, got, c.want)
		}
	}
	for _, z := range manyNumbers() {
		re, im := real(z), imag(z)
		wants := []complex64{complex(re, im), complex(flipped(im), re), complex(flipped(re), flipped(im)), complex(im, flipped(re))}
		for quarter, want := range wants {
			if got := impl.ApplyTurn(turnOf(quarter, 0), z); !sameNarrow(got, want) {
				t.Errorf("ApplyTurn(quarter %d, %v) = %v; want %v", quarter, z, got, want)
			}
		}
	}
}

func TestApplyTurnScalesAndRoundsOnce(t *testing.T) {
	cases := []struct {
		x     float32
		power int
		want  float32
	}{
		{3, 2, 12}, {3, -2, 0.75}, {1, 60, 0x1p60}, {1, -60, 0x1p-60}, {0, 60, 0}, {0, -60, 0}, {0.1, 1, 0.2},
		// To an infinite number, or just not.
		{greatestSingle, 1, infinite(1)}, {greatestSingle, 60, infinite(1)}, {0x1p67, 60, 0x1p127}, {0x1p68, 60, infinite(1)}, {just(0x1p68, -1), 60, greatestSingle},
		{greatestSingle, -60, 0x1.fffffep67}, {infinite(1), 60, infinite(1)}, {infinite(1), -60, infinite(1)}, {notANumber(), 60, notANumber()}, {notANumber(), -60, notANumber()},
		// To 0, or to a subnormal that is rounded to an even one.
		{leastSingle, -1, 0}, {leastSingle, -60, 0}, {3 * leastSingle, -1, 2 * leastSingle}, {5 * leastSingle, -1, 2 * leastSingle}, {7 * leastSingle, -1, 4 * leastSingle},
		{3 * leastSingle, -2, leastSingle}, {5 * leastSingle, -2, leastSingle}, {2 * leastSingle, -2, 0}, {0x1p-90, -60, 0}, {just(0x1p-90, 1), -60, leastSingle}, {0x1p-89, -60, leastSingle},
		{0x1.000002p-126, -1, 0x1p-127}, {0x1.000006p-126, -1, 0x1.000008p-127}, {just(0x1p-125, -1), -1, 0x1p-126},
		// From a subnormal.
		{leastSingle, 1, 2 * leastSingle}, {leastSingle, 60, 0x1p-89}, {3 * leastSingle, 60, 0x1.8p-88}, {just(0x1p-126, -1), 60, 0x1.fffffcp-67},
	}
	for _, c := range cases {
		for _, other := range []float32{1, notANumber(), infinite(-1), minusZero()} {
			turn := turnOf(0, c.power)
			for _, sign := range []float32{1, -1} {
				want := complex(sign*c.want, scaled(other, c.power))
				if got := impl.ApplyTurn(turn, complex(sign*c.x, other)); !sameNarrow(got, want) {
					t.Errorf("ApplyTurn(%v, (%v, %v)) = %v; want %v", turn, sign*c.x, other, got, want)
				}
				want = complex(imag(want), real(want))
				if got := impl.ApplyTurn(turn, complex(other, sign*c.x)); !sameNarrow(got, want) {
					t.Errorf("ApplyTurn(%v, (%v, %v)) = %v; want %v", turn, other, sign*c.x, got, want)
				}
			}
		}
	}
}

func TestApplyTurnOfManySingles(t *testing.T) {
	for _, turn := range []impl.Turn{turnOf(0, -60), turnOf(1, -59), turnOf(2, -25), turnOf(3, -24), turnOf(0, -2), turnOf(1, -1), turnOf(2, 1), turnOf(3, 23), turnOf(0, 24), turnOf(1, 59), turnOf(2, 60)} {
		for _, x := range manySingles() {
			places := impl.ApplyTurn(turnOf(turn.Quarter, 0), complex(x, 3))
			want := complex(scaled(real(places), turn.Power), scaled(imag(places), turn.Power))
			if got := impl.ApplyTurn(turn, complex(x, 3)); !sameNarrow(got, want) {
				t.Fatalf("ApplyTurn(%v, (%v, 3)) = %v; want %v", turn, x, got, want)
			}
		}
	}
}

func TestApplyTurnRejects(t *testing.T) {
	numbers := []complex64{0, 1, complex(minusZero(), minusZero()), complex(-3, -4), complex(notANumber(), infinite(-1)), complex(greatestSingle, leastSingle)}
	for _, turn := range invalidTurns() {
		for _, z := range numbers {
			if got := impl.ApplyTurn(turn, z); !sameNarrow(got, 0) {
				t.Errorf("ApplyTurn(%v, %v) = %v; want 0", turn, z, got)
			}
		}
	}
}

func TestComposeTurnsAtItsLimits(t *testing.T) {
	cases := []struct {
		a, b, want impl.Turn
		ok         bool
	}{
		{impl.Turn{}, impl.Turn{}, impl.Turn{}, true},
		{turnOf(1, 2), turnOf(2, 5), turnOf(3, 7), true},
		{turnOf(2, 2), turnOf(2, -2), impl.Turn{}, true},
		{turnOf(3, -7), turnOf(3, 1), turnOf(2, -6), true},
		{turnOf(3, 30), turnOf(0, 30), turnOf(3, 60), true},
		{turnOf(3, 30), turnOf(1, 31), impl.Turn{}, false},
		{turnOf(1, -30), turnOf(1, -30), turnOf(2, -60), true},
		{turnOf(1, -31), turnOf(1, -30), impl.Turn{}, false},
		{turnOf(0, 60), turnOf(0, 60), impl.Turn{}, false},
		{turnOf(0, -60), turnOf(0, -60), impl.Turn{}, false},
		{turnOf(0, -60), turnOf(0, 60), impl.Turn{}, true},
	}
	for _, c := range cases {
		if got, ok := impl.ComposeTurns(c.a, c.b); got != c.want || ok != c.ok {
			t.Errorf("ComposeTurns(%v, %v) = %v, %v; want %v, %v", c.a, c.b, got, ok, c.want, c.ok)
		}
	}
	for _, a := range validTurns() {
		for _, b := range validTurns() {
			power := a.Power + b.Power
			want := turnOf((a.Quarter+b.Quarter)&3, power)
			fits := power >= -impl.MaxPower && power <= impl.MaxPower
			if !fits {
				want = impl.Turn{}
			}
			if got, ok := impl.ComposeTurns(a, b); got != want || ok != fits {
				t.Errorf("ComposeTurns(%v, %v) = %v, %v; want %v, %v", a, b, got, ok, want, fits)
			}
		}
	}
}

func TestComposeTurnsRejects(t *testing.T) {
	none := impl.Turn{}
	// The others are such that, with many of the turns that are not valid, the sums would be.
	others := append(validTurns(), invalidTurns()...)
	for _, a := range invalidTurns() {
		for _, b := range others {
			if got, ok := impl.ComposeTurns(a, b); got != none || ok {
				t.Errorf("ComposeTurns(%v, %v) = %v, %v; want a zero turn and false", a, b, got, ok)
			}
			if got, ok := impl.ComposeTurns(b, a); got != none || ok {
				t.Errorf("ComposeTurns(%v, %v) = %v, %v; want a zero turn and false", b, a, got, ok)
			}
		}
	}
}

func TestInverseTurn(t *testing.T) {
	cases := []struct{ turn, want impl.Turn }{
		{impl.Turn{}, impl.Turn{}}, {turnOf(1, 5), turnOf(3, -5)}, {turnOf(2, -60), turnOf(2, 60)},
		{turnOf(3, 60), turnOf(1, -60)}, {turnOf(0, 1), turnOf(0, -1)},
	}
	for _, c := range cases {
		if got, ok := impl.InverseTurn(c.turn); got != c.want || !ok {
			t.Errorf("InverseTurn(%v) = %v, %v; want %v, true", c.turn, got, ok, c.want)
		}
	}
	none := impl.Turn{}
	for _, turn := range validTurns() {
		back, ok := impl.InverseTurn(turn)
		there, thereOk := impl.ComposeTurns(turn, back)
		here, hereOk := impl.ComposeTurns(back, turn)
		if !ok || !impl.TurnOk(back) || there != none || !thereOk || here != none || !hereOk {
			t.Errorf("InverseTurn(%v) = %v, %v; composed they are %v and %v", turn, back, ok, there, here)
		}
	}
	for _, turn := range invalidTurns() {
		if got, ok := impl.InverseTurn(turn); got != none || ok {
			t.Errorf("InverseTurn(%v) = %v, %v; want a zero turn and false", turn, got, ok)
		}
	}
}

// TestTwoTurnsAreTheirComposedTurn is the first sentence of P3, first half.
func TestTwoTurnsAreTheirComposedTurn(t *testing.T) {
	for _, a := range validTurns() {
		for _, b := range validTurns() {
			both, ok := impl.ComposeTurns(a, b)
			if !ok || a.Power < 0 || b.Power < 0 {
				continue
			}
			for _, z := range manyNumbers() {
				got, want := impl.ApplyTurn(b, impl.ApplyTurn(a, z)), impl.ApplyTurn(both, z)
				if !sameNarrow(got, want) {
					t.Fatalf("%v turned by %v and %v is %v; by %v it is %v", z, a, b, got, both, want)
				}
			}
		}
	}
}

// TestTurnIsTurnedBack is the first sentence of P3, second half.
func TestTurnIsTurnedBack(t *testing.T) {
	for _, turn := range validTurns() {
		back, ok := impl.InverseTurn(turn)
		if !ok || turn.Power < 0 {
			continue
		}
		for _, z := range manyNumbers() {
			turned := impl.ApplyTurn(turn, z)
			if !impl.IsFinite(complex128(turned)) {
				continue
			}
			if got := impl.ApplyTurn(back, turned); !sameNarrow(got, z) {
				t.Fatalf("%v turned by %v is %v; turned back it is %v", z, turn, turned, got)
			}
		}
	}
}

// partDoubles returns floats of every kind that a part may be.
func partDoubles() []float64 {
	var out []float64
	amounts := []float64{0, 1, 3, 0.1, math.Nextafter(1, 2), math.SmallestNonzeroFloat64, 0x1p-1022, 1e-160, 1e160, math.MaxFloat64, math.Inf(1)}
	for _, x := range amounts {
		out = append(out, x, -x)
	}
	return append(out, math.NaN())
}

// manyWideNumbers returns all complex numbers with such parts.
func manyWideNumbers() []complex128 {
	var out []complex128
	for _, re := range partDoubles() {
		for _, im := range partDoubles() {
			out = append(out, complex(re, im))
		}
	}
	return out
}

func TestConjugateTurnsOneSign(t *testing.T) {
	zero, minus := 0.0, math.Copysign(0, -1)
	cases := []struct{ z, want complex128 }{
		{complex(3, 4), complex(3, -4)}, {complex(-3, -4), complex(-3, 4)}, {complex(zero, zero), complex(zero, minus)}, {complex(minus, minus), complex(minus, zero)},
		{complex(math.NaN(), 1), complex(math.NaN(), -1)}, {complex(minus, math.NaN()), complex(minus, math.NaN())}, {complex(math.Inf(-1), math.Inf(1)), complex(math.Inf(-1), math.Inf(-1))},
	}
	for _, c := range cases {
		if got := impl.Conjugate(c.z); !sameWide(got, c.want) {
			t.Errorf("Conjugate(%v) = %v; want %v", c.z, got, c.want)
		}
	}
	for _, z := range manyWideNumbers() {
		want := complex(real(z), math.Float64frombits(math.Float64bits(imag(z))^1<<63))
		if got := impl.Conjugate(z); !sameWide(got, want) || !sameWide(impl.Conjugate(got), z) {
			t.Errorf("Conjugate(%v) = %v; want %v", z, got, want)
		}
	}
}

func TestSwapExchangesTheParts(t *testing.T) {
	if got := impl.Swap(complex(3, -4)); got != complex(-4, 3) {
		t.Errorf("Swap(3-4i) = %v", got)
	}
	for _, z := range manyNumbers() {
		if got := impl.Swap(z); !sameBits(real(got), imag(z)) || !sameBits(imag(got), real(z)) {
			t.Errorf("Swap(%v) = %v", z, got)
		}
	}
}
