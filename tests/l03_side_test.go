package tests

import (
	"math"
	"math/big"
	"testing"

	"loop.example/g03320/impl"
)

// roundedProduct returns the product of two floats, rounded once, by means of exact numbers.
func roundedProduct(a float64, b float64) float64 {
	if !finiteWide(complex(a, b)) || a == 0 || b == 0 {
		return a * b
	}
	out, _ := new(big.Float).SetPrec(200).Mul(big.NewFloat(a), big.NewFloat(b)).Float64()
	return out
}

func TestQuadrantsHaveTheAxisAtTheirStart(t *testing.T) {
	const greatest, least = math.MaxFloat64, math.SmallestNonzeroFloat64
	minus, nan, inf := math.Copysign(0, -1), math.NaN(), math.Inf(1)
	cases := []struct {
		z    complex128
		want int
	}{
		{complex(1, 1), 0}, {complex(-1, 1), 1}, {complex(-1, -1), 2}, {complex(1, -1), 3},
		{1, 0}, {complex(0, 1), 1}, {-1, 2}, {complex(0, -1), 3}, {complex(1, minus), 0}, {complex(minus, 1), 1}, {complex(-1, minus), 2}, {complex(minus, -1), 3},
		{0, -1}, {complex(minus, 0), -1}, {complex(0, minus), -1}, {complex(minus, minus), -1},
		{complex(least, 0), 0}, {complex(0, least), 1}, {complex(-least, 0), 2}, {complex(0, -least), 3}, {complex(least, greatest), 0}, {complex(-least, greatest), 1}, {complex(-greatest, -least), 2}, {complex(greatest, -least), 3},
		{complex(inf, 0), 0}, {complex(inf, inf), 0}, {complex(-inf, inf), 1}, {complex(0, inf), 1}, {complex(-inf, 0), 2}, {complex(-inf, -inf), 2}, {complex(0, -inf), 3}, {complex(inf, -inf), 3},
		{complex(nan, 0), -1}, {complex(nan, 1), -1}, {complex(nan, -1), -1}, {complex(0, nan), -1}, {complex(1, nan), -1}, {complex(-1, nan), -1}, {complex(nan, nan), -1}, {complex(inf, nan), -1}, {complex(nan, -inf), -1},
	}
	for _, c := range cases {
		if got := impl.QuadrantOf(c.z); got != c.want {
			t.Errorf("QuadrantOf(%v) = %d; want %d", c.z, got, c.want)
		}
	}
}

// TestTurnedNumberLiesSoManyQuadrantsOn is the second sentence of P3.
func TestTurnedNumberLiesSoManyQuadrantsOn(t *testing.T) {
	for _, z := range manyNumbers() {
		before := impl.QuadrantOf(complex128(z))
		for quarter := range 4 {
			want := before
			if before >= 0 {
				want = (before + quarter) % 4
			}
			turned := impl.ApplyTurn(turnOf(quarter, 0), z)
			if got := impl.QuadrantOf(complex128(turned)); got != want {
				t.Errorf("%v is in quadrant %d; turned by %d it is in %d", z, before, quarter, got)
			}
		}
	}
}

func TestNormOfRoundsEachSquare(t *testing.T) {
	const greatest, least = math.MaxFloat64, math.SmallestNonzeroFloat64
	minus, nan, inf := math.Copysign(0, -1), math.NaN(), math.Inf(1)
	cases := []struct {
		z    complex128
		want float64
	}{
		{complex(3, 4), 25}, {complex(-3, 4), 25}, {complex(3, -4), 25}, {0, 0}, {complex(minus, minus), 0}, {complex(0, -7), 49}, {complex(1, 1e-200), 1},
		// Here a square that is fused with the sum, on either side, comes to something else.
		{complex(0.1, 0.3), 0.1}, {complex(-0.2, 0.6), 0.4}, {complex(0.9, -1.8), 4.050000000000001}, {complex(1.7, 2.7), 10.18}, {complex(2.1, 2.2), 9.25},
		// The squares, or just their sum, are infinite, or just not.
		{greatest, inf}, {complex(0, -greatest), inf}, {1.35e154, inf}, {complex(1.2e154, 1.2e154), inf}, {complex(0x1p511, 0x1p511), 0x1p1023}, {complex(0x1p512, 0), inf},
		// The squares are 0, or rounded to the least number; in the last case their exact sum would be.
		{least, 0}, {complex(1e-170, 1e-170), 0}, {complex(0x1p-537, 0), least}, {complex(0x1.8p-538, 0x1p-537), 2 * least}, {complex(0x1p-538, 0x1p-538), 0}, {complex(0x1.6p-538, 0x1.6p-538), 0},
		{complex(inf, 1), inf}, {complex(1, -inf), inf}, {complex(-inf, inf), inf}, {complex(nan, 1), nan}, {complex(1, nan), nan}, {complex(inf, nan), nan}, {complex(nan, 0), nan},
	}
	for _, c := range cases {
		if got := impl.NormOf(c.z); !sameDoubles(got, c.want) {
			t.Errorf("NormOf(%v) = %v; want %v", c.z, got, c.want)
		}
	}
	for _, z := range manyWideNumbers() {
		want := roundedProduct(real(z), real(z)) + roundedProduct(imag(z), imag(z))
		if got := impl.NormOf(z); !sameDoubles(got, want) {
			t.Errorf("NormOf(%v) = %v; want %v", z, got, want)
		}
	}
}

func TestSideOfRoundsEachProduct(t *testing.T) {
	const greatest, least = math.MaxFloat64, math.SmallestNonzeroFloat64
	inf, nan := math.Inf(1), math.NaN()
	above, below := math.Nextafter(1, 2), math.Nextafter(1, 0)
	cases := []struct {
		a, b complex128
		want int
	}{
		{1, complex(0, 1), 1}, {complex(0, 1), 1, -1}, {complex(1, 2), complex(2, 4), 0}, {complex(1, 2), complex(2, 5), 1}, {complex(1, 2), complex(2, 3), -1}, {complex(1, 2), complex(-1, -2), 0}, {complex(0, 1), -1, 1}, {complex(0, -1), -1, -1},
		{0, complex(3, 4), 0}, {complex(3, 4), 0, 0}, {complex(3, 4), complex(3, 4), 0},
		// The exact difference is not 0; both products are rounded to the same number. A product that is fused with the difference is not.
		{complex(above, 1), complex(1, below), 0}, {complex(1, above), complex(below, 1), 0}, {complex(0x1.0000001p0, 1), complex(1, 0x1.ffffffep-1), 0}, {complex(1, 0x1.0000001p0), complex(0x1.ffffffep-1, 1), 0},
		{complex(0.1, 0.3), complex(0.1, 0.3), 0}, {complex(0.1, 0.7), complex(-0.1, -0.7), 0},
		// One product is infinite, or both are.
		{complex(greatest, 1), complex(1, 2), 1}, {complex(1, greatest), complex(2, 1), -1}, {complex(greatest, 1), complex(1, greatest), 1}, {complex(greatest, greatest), complex(2, 4), 0}, {complex(greatest, greatest), complex(-2, 4), 1}, {complex(greatest, greatest), complex(2, -4), -1},
		// The products are 0, or rounded to the least number.
		{complex(1e-200, 0), complex(0, 1e-200), 0}, {complex(0, 1e-200), complex(1e-200, 0), 0}, {complex(0x1p-537, 0), complex(0, 0x1p-537), 1}, {complex(0, 0x1p-537), complex(0x1p-537, 0), -1}, {complex(least, least), complex(1, 2), 1}, {complex(least, 0), complex(0, 0.5), 0}, {complex(0x1.6p-538, 0x1.6p-538), complex(-0x1.6p-538, 0x1.6p-538), 0},
		{complex(nan, 1), complex(1, 1), 0}, {complex(1, nan), complex(1, 1), 0}, {complex(1, 1), complex(nan, 1), 0}, {complex(1, 1), complex(1, nan), 0},
		{complex(inf, 1), complex(1, 1), 1}, {complex(1, inf), complex(1, 1), -1}, {complex(inf, 1), complex(1, 0), 0}, {complex(inf, inf), complex(1, 1), 0}, {complex(-inf, inf), complex(1, 1), -1}, {complex(1, 1), complex(-inf, inf), 1},
	}
	for _, c := range cases {
		if got := impl.SideOf(c.a, c.b); got != c.want {
			t.Errorf("SideOf(%v, %v) = %d; want %d", c.a, c.b, got, c.want)
		}
	}
}

// TestSidesAreTurnedRound is the last sentence of P3, on numbers whose sides are told by exact products, too.
func TestSidesAreTurnedRound(t *testing.T) {
	for _, a := range manyWideNumbers() {
		for _, b := range manyWideNumbers() {
			want := 0
			switch left, right := roundedProduct(real(a), imag(b)), roundedProduct(imag(a), real(b)); {
			case left-right > 0:
				want = 1
			case left-right < 0:
				want = -1
			}
			ab, ba := impl.SideOf(a, b), impl.SideOf(b, a)
			if ab != want || ba != -want {
				t.Fatalf("SideOf(%v, %v) = %d, and turned round %d; want %d", a, b, ab, ba, want)
			}
		}
	}
}
