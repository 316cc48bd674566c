package tests

import (
	"math"
	"math/big"
	"testing"

	"loop.example/g03320/impl"
)

// reversed returns x with its sign turned, by its bits.
func reversed(x float64) float64 { return math.Float64frombits(math.Float64bits(x) ^ 1<<63) }

// scaledDouble returns x times 2 to the power, rounded once, by means of exact numbers.
func scaledDouble(x float64, power int) float64 {
	if x == 0 || x != x || math.IsInf(x, 0) {
		return x
	}
	out, _ := new(big.Float).SetMantExp(big.NewFloat(x), power).Float64()
	return out
}

// corrected tells what a valid step makes of z, in other words than the program, be it finite or not.
func corrected(s impl.Step, z complex128) complex128 {
	a, b, c, d := real(z), imag(z), real(s.By), imag(s.By)
	switch s.Kind {
	case 1:
		return complex(a+c, b+d)
	case 2:
		return complex(a-c, b-d)
	case 3:
		return complex(roundedProduct(a, c)-roundedProduct(b, d), roundedProduct(a, d)+roundedProduct(b, c))
	case 4:
		return z / s.By
	case 5:
		return complex(a, reversed(b))
	case 6:
		return complex(reversed(a), reversed(b))
	}
	for range s.Turn.Quarter {
		a, b = reversed(b), a
	}
	return complex(scaledDouble(a, s.Turn.Power), scaledDouble(b, s.Turn.Power))
}

// holdsOne asks for the result, in each part and sign, or for 0 and false if that is not finite.
func holdsOne(t *testing.T, s impl.Step, z complex128, want complex128) {
	t.Helper()
	wantOk := finiteWide(want)
	if !wantOk {
		want = 0
	}
	if got, ok := impl.CorrectOne(s, z); !sameWide(got, want) || ok != wantOk {
		t.Errorf("CorrectOne(%v, %v) = %v, %v; want %v, %v", s, z, got, ok, want, wantOk)
	}
}

func TestCorrectOneOfEachKind(t *testing.T) {
	minus := math.Copysign(0, -1)
	cases := []struct {
		s       impl.Step
		z, want complex128
	}{
		{stepOf(impl.CoAdd, complex(1, -2)), complex(3, 4), complex(4, 2)}, {stepOf(impl.CoSub, complex(1, -2)), complex(3, 4), complex(2, 6)},
		{stepOf(impl.CoMul, complex(1, -2)), complex(3, 4), complex(11, -2)}, {stepOf(impl.CoDiv, complex(1, -2)), complex(3, 4), complex(-1, 2)},
		{stepOf(impl.CoConj, 0), complex(3, 4), complex(3, -4)}, {stepOf(impl.CoNeg, 0), complex(3, 4), complex(-3, -4)},
		{turnStep(0, 1), complex(3, 4), complex(6, 8)}, {turnStep(1, 1), complex(3, 4), complex(-8, 6)}, {turnStep(2, -1), complex(3, 4), complex(-1.5, -2)}, {turnStep(3, 0), complex(3, 4), complex(4, -3)},
		// The signs of 0.
		{stepOf(impl.CoAdd, 0), complex(minus, minus), 0}, {stepOf(impl.CoAdd, complex(minus, 0)), complex(minus, minus), complex(minus, 0)}, {stepOf(impl.CoAdd, complex(-3, 4)), complex(3, -4), 0},
		{stepOf(impl.CoSub, 0), complex(minus, minus), complex(minus, minus)}, {stepOf(impl.CoSub, complex(minus, 0)), complex(minus, minus), complex(0, minus)}, {stepOf(impl.CoSub, complex(3, -4)), complex(3, -4), 0},
		{stepOf(impl.CoMul, -1), 0, complex(minus, 0)}, {stepOf(impl.CoMul, 1), complex(minus, minus), complex(0, minus)}, {stepOf(impl.CoMul, 0), complex(-3, -4), complex(0, minus)}, {stepOf(impl.CoMul, complex(minus, minus)), complex(3, 4), complex(0, minus)},
		{stepOf(impl.CoDiv, complex(0, -3)), 0, complex(minus, 0)}, {stepOf(impl.CoDiv, -1), complex(5, 0), complex(-5, minus)},
		{stepOf(impl.CoConj, complex(minus, minus)), 0, complex(0, minus)}, {stepOf(impl.CoConj, 0), complex(minus, minus), complex(minus, 0)},
		{stepOf(impl.CoNeg, 0), 0, complex(minus, minus)}, {stepOf(impl.CoNeg, complex(minus, 0)), complex(minus, 1), complex(0, -1)},
		{turnStep(0, 5), complex(minus, 0), complex(minus, 0)}, {turnStep(1, 0), 0, complex(minus, 0)}, {turnStep(2, -5), 0, complex(minus, minus)}, {turnStep(3, 60), 0, complex(0, minus)}, {turnStep(1, 1), complex(0, 3), complex(-6, 0)}, {turnStep(3, 1), complex(3, minus), complex(minus, -6)},
	}
	for _, c := range cases {
		holdsOne(t, c.s, c.z, c.want)
	}
}

func TestProductsAreRoundedBeforeTheyAreAdded(t *testing.T) {
	const greatest, least = math.MaxFloat64, math.SmallestNonzeroFloat64
	// The square of x is not exact: a product that is fused with the sum leaves what was rounded off.
	x := 1 + 0x1p-30
	square := 1 + 0x1p-29
	minus, past := math.Copysign(0, -1), complex(math.Inf(1), 0)
	tenth, rest := 0.1, 0.3
	cases := []struct{ z, by, want complex128 }{
		{complex(x, x), complex(x, x), complex(0, 2*square)}, {complex(x, -x), complex(x, x), complex(2*square, 0)}, {complex(x, x), complex(x, -x), complex(2*square, 0)}, {complex(x, x), complex(-x, -x), complex(0, -2*square)},
		{complex(tenth, rest), complex(rest, tenth), complex(0, float64(tenth*tenth)+float64(rest*rest))}, {complex(3, 0.1), complex(0.1, 3), complex(0, 9.01)},
		// One part goes past the greatest inside, although the part of the result would not.
		{complex(0x1p1000, 0x1p1000), complex(0x1p24, 0x1p23), past}, {complex(0x1p1000, 0x1p1000), complex(0x1p24, 0x1p24), past}, {complex(0x1p1000, -0x1p1000), complex(0x1p24, 0x1p24), past}, {complex(greatest, 1), complex(1, greatest), past},
		{complex(0x1p1000, 0x1p1000), complex(0x1p23, 0x1p22), complex(0x1p1022, 0x1.8p1023)}, {complex(0x1p1000, 0x1p1000), complex(0x1p23, 0x1p23), past}, {complex(0x1p1000, -0x1p1000), complex(0x1p23, 0x1p23), past}, {complex(0x1p1000, 0), complex(0x1p24, 0), past}, {complex(0, 0x1p1000), complex(0, 0x1p24), past}, {complex(0, 0x1p1000), complex(0x1p24, 0), past},
		{greatest, 1, greatest}, {greatest, complex(1, -1), complex(greatest, -greatest)}, {greatest, 2, past},
		// Products that are rounded to 0, or to the least.
		{least, 0.5, 0}, {complex(least, least), complex(0.5, 0.5), 0}, {complex(-least, 0), 0.5, complex(minus, 0)}, {complex(3*least, 0), 0.5, 2 * least}, {complex(least, -least), complex(0.75, 0.75), 2 * least}, {complex(1e-200, 1e-200), complex(1e-200, 1e-200), 0},
	}
	for _, c := range cases {
		holdsOne(t, stepOf(impl.CoMul, c.by), c.z, c.want)
	}
}

func TestQuotientsAreThoseOfTheLanguage(t *testing.T) {
	const greatest, least = math.MaxFloat64, math.SmallestNonzeroFloat64
	minus, past := math.Copysign(0, -1), complex(math.Inf(1), 0)
	cases := []struct{ z, by, want complex128 }{
		{complex(4, 2), complex(0, 2), complex(1, -2)}, {complex(4, 2), complex(minus, 2), complex(1, -2)}, {complex(4, 2), complex(2, minus), complex(2, 1)}, {complex(4, 2), complex(-2, 0), complex(-2, -1)},
		{complex(minus, 0), complex(1, minus), complex(minus, 0)}, {complex(5, -3), complex(-7, 0.7), complex(-0.7496463932107496, 0.3536067892503536)}, {complex(-2.5, 0.1), complex(0.3, -7), complex(-0.02953758402933388, -0.3558769606844571)},
		{1, least, past}, {1, complex(minus, -least), past}, {least, least, 1}, {complex(least, least), complex(least, least), 1}, {0, complex(0, least), 0}, {0x1p-60, complex(0, 0x1p-1074), complex(0, -0x1p1014)},
		// The denominator is past the greatest, so that the quotient is 0 or NaN, although its exact value is neither.
		{complex(0x1p1000, 0), complex(greatest, greatest), complex(0, minus)}, {complex(greatest, greatest), complex(greatest, greatest), past}, {greatest, complex(0, greatest), complex(0, -1)}, {greatest, complex(greatest, minus), 1}, {greatest, 0.5, past}, {complex(1, greatest), complex(0, 0.5), past},
		{complex(1, 1), greatest, complex(0x1p-1024, 0x1p-1024)}, {complex(least, -least), 2, complex(0, minus)}, {complex(3*least, minus), 2, complex(2*least, minus)},
	}
	for _, c := range cases {
		holdsOne(t, stepOf(impl.CoDiv, c.by), c.z, c.want)
	}
}

func TestTurnedPartsAreScaledAndRoundedOnce(t *testing.T) {
	const greatest, least = math.MaxFloat64, math.SmallestNonzeroFloat64
	inf := math.Inf(1)
	cases := []struct {
		x     float64
		power int
		want  float64
	}{
		{1, 60, 0x1p60}, {1, -60, 0x1p-60}, {0.1, 1, 0.2}, {0, 60, 0}, {0, -60, 0}, {1 + 0x1p-40, 7, 128 + 0x1p-33},
		{greatest, 1, inf}, {greatest, 60, inf}, {0x1p963, 60, 0x1p1023}, {0x1p964, 60, inf}, {math.Nextafter(0x1p964, 0), 60, greatest}, {greatest, -60, 0x1.fffffffffffffp963}, {0x1p1023, 1, inf}, {math.Nextafter(0x1p1023, 0), 1, greatest},
		{least, -1, 0}, {least, -60, 0}, {3 * least, -1, 2 * least}, {5 * least, -1, 2 * least}, {7 * least, -2, 2 * least}, {0x1p-1014, -60, least}, {0x1p-1015, -60, 0}, {math.Nextafter(0x1p-1015, 1), -60, least}, {0x1.0000000000001p-1022, -1, 0x1p-1023}, {0x1.0000000000003p-1022, -1, 0x1.0000000000004p-1023},
		{least, 60, 0x1p-1014}, {3 * least, 1, 6 * least}, {math.Nextafter(0x1p-1022, 0), 60, 0x1.ffffffffffffep-963},
	}
	for _, c := range cases {
		for _, sign := range []float64{1, -1} {
			x, want := sign*c.x, sign*c.want
			other, otherWant := 0x1p-700, math.Ldexp(1, c.power-700)
			holdsOne(t, turnStep(0, c.power), complex(x, other), complex(want, otherWant))
			holdsOne(t, turnStep(0, c.power), complex(other, x), complex(otherWant, want))
			holdsOne(t, turnStep(1, c.power), complex(x, other), complex(-otherWant, want))
			holdsOne(t, turnStep(1, c.power), complex(other, x), complex(reversed(want), otherWant))
			holdsOne(t, turnStep(2, c.power), complex(x, other), complex(reversed(want), -otherWant))
			holdsOne(t, turnStep(2, c.power), complex(other, x), complex(-otherWant, reversed(want)))
			holdsOne(t, turnStep(3, c.power), complex(x, other), complex(otherWant, reversed(want)))
			holdsOne(t, turnStep(3, c.power), complex(other, x), complex(want, -otherWant))
		}
	}
}

func TestCorrectOneOfManyStepsAndNumbers(t *testing.T) {
	numbers := manyWideNumbers()
	for i, s := range validSteps() {
		for j, z := range numbers {
			// Every step meets every number that is not finite, and every third of the others.
			if finiteWide(z) && (i+j)%3 != 0 {
				continue
			}
			want := complex(math.NaN(), 0)
			if finiteWide(z) {
				want = corrected(s, z)
			}
			holdsOne(t, s, z, want)
		}
		if t.Failed() {
			return
		}
	}
}

func TestCorrectOneRejects(t *testing.T) {
	for _, s := range invalidSteps() {
		for _, z := range []complex128{0, 1, complex(-3, 4), complex(math.NaN(), 1)} {
			if got, ok := impl.CorrectOne(s, z); !sameWide(got, 0) || ok {
				t.Errorf("CorrectOne(%v, %v) = %v, %v; want 0, false", s, z, got, ok)
			}
		}
	}
	steps := []impl.Step{stepOf(impl.CoAdd, 1), stepOf(impl.CoSub, 1), stepOf(impl.CoMul, 0), stepOf(impl.CoDiv, 2), stepOf(impl.CoConj, 0), stepOf(impl.CoNeg, 0), turnStep(0, 0), turnStep(1, -60)}
	for _, z := range notFinite() {
		for _, s := range steps {
			if got, ok := impl.CorrectOne(s, z); !sameWide(got, 0) || ok {
				t.Errorf("CorrectOne(%v, %v) = %v, %v; want 0, false", s, z, got, ok)
			}
		}
	}
	// The one fault is that the result is not finite, in the real part or in the imaginary part.
	const greatest = math.MaxFloat64
	cases := []struct {
		s impl.Step
		z complex128
	}{
		{stepOf(impl.CoAdd, greatest), greatest}, {stepOf(impl.CoAdd, complex(0, -greatest)), complex(0, -greatest)}, {stepOf(impl.CoSub, -greatest), greatest}, {stepOf(impl.CoSub, complex(0, greatest)), complex(0, -greatest)},
		{stepOf(impl.CoMul, 2), greatest}, {stepOf(impl.CoMul, complex(0, 2)), greatest}, {stepOf(impl.CoDiv, 0.5), greatest}, {stepOf(impl.CoDiv, complex(0, 0.5)), greatest},
		{turnStep(0, 1), greatest}, {turnStep(1, 1), greatest}, {turnStep(2, 60), complex(0, 0x1p964)}, {turnStep(3, 60), complex(1, 0x1p964)},
	}
	for _, c := range cases {
		if got, ok := impl.CorrectOne(c.s, c.z); !sameWide(got, 0) || ok {
			t.Errorf("CorrectOne(%v, %v) = %v, %v; want 0, false", c.s, c.z, got, ok)
		}
	}
}
