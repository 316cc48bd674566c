package tests

import (
	"math"
	"slices"
	"testing"

	"loop.example/g03320/impl"
)

// finiteWide reports whether z is finite, without the help of the package.
func finiteWide(z complex128) bool {
	return math.Abs(real(z)) <= math.MaxFloat64 && math.Abs(imag(z)) <= math.MaxFloat64
}

func TestRatioIsTheQuotient(t *testing.T) {
	const greatest, least = math.MaxFloat64, math.SmallestNonzeroFloat64
	minus := math.Copysign(0, -1)
	cases := []struct{ a, b, want complex128 }{
		{complex(4, 2), complex(0, 2), complex(1, -2)}, {complex(1, 2), complex(3, 4), complex(0.44, 0.08)}, {6, 3, 2}, {0, complex(0, -3), complex(minus, 0)}, {complex(5, 0), -1, complex(-5, minus)},
		// Here the product with the conjugate, over the norm, comes to something else.
		{complex(-2.5, 0.1), complex(0.3, -7), complex(-0.02953758402933388, -0.3558769606844571)}, {complex(5, -3), complex(-7, 0.7), complex(-0.7496463932107496, 0.3536067892503536)},
		{complex(0.1, 0.2), complex(0.3, 0.4), complex(0.44000000000000006, 0.07999999999999999)}, {complex(1e200, 3e200), complex(2e200, 2e200), complex(1, 0.5)}, {complex(least, 0), complex(least, least), complex(0.5, -0.5)},
		{complex(1, 1), complex(greatest, greatest), 0}, {complex(least, least), 2, 0}, {complex(3*least, minus), 2, complex(2*least, minus)}, {greatest, 1, greatest}, {complex(minus, 0), complex(1, minus), complex(minus, 0)},
	}
	for _, c := range cases {
		if got, ok := impl.Ratio(c.a, c.b); !sameWide(got, c.want) || !ok {
			t.Errorf("Ratio(%v, %v) = %v, %v; want %v, true", c.a, c.b, got, ok, c.want)
		}
	}
}

func TestRatioOfManyNumbers(t *testing.T) {
	for _, a := range manyWideNumbers() {
		for _, b := range manyWideNumbers() {
			want := a / b
			wantOk := finiteWide(a) && finiteWide(b) && !(real(b) == 0 && imag(b) == 0) && finiteWide(want)
			if !wantOk {
				want = 0
			}
			if got, ok := impl.Ratio(a, b); !sameWide(got, want) || ok != wantOk {
				t.Fatalf("Ratio(%v, %v) = %v, %v; want %v, %v", a, b, got, ok, want, wantOk)
			}
		}
	}
}

func TestRatioRejects(t *testing.T) {
	const greatest, least = math.MaxFloat64, math.SmallestNonzeroFloat64
	minus, nan, inf := math.Copysign(0, -1), math.NaN(), math.Inf(1)
	cases := [][2]complex128{
		{complex(nan, 1), 1}, {complex(1, nan), 1}, {complex(inf, 1), 1}, {complex(1, -inf), 1}, {complex(inf, nan), 1},
		{1, complex(nan, 1)}, {1, complex(1, nan)}, {1, complex(inf, 1)}, {1, complex(1, -inf)}, {1, complex(-inf, inf)}, {0, complex(0, nan)},
		{1, 0}, {1, complex(minus, 0)}, {1, complex(0, minus)}, {1, complex(minus, minus)}, {0, 0}, {complex(minus, minus), complex(minus, minus)}, {complex(nan, nan), 0}, {complex(inf, inf), 0},
		{1, least}, {1, complex(0, least)}, {complex(greatest, 1), 0.5}, {complex(1, greatest), 0.5}, {complex(-greatest, 1), 0.5}, {complex(1, -greatest), 0.5}, {complex(greatest, -greatest), complex(1, 1)},
		// The denominator is infinite, and so is one sum above it: that part of the quotient is NaN, the other one 0.
		{complex(greatest, greatest), complex(greatest, greatest)},
	}
	for _, c := range cases {
		if got, ok := impl.Ratio(c[0], c[1]); !sameWide(got, 0) || ok {
			t.Errorf("Ratio(%v, %v) = %v, %v; want 0, false", c[0], c[1], got, ok)
		}
	}
}

func TestRatioSingleIsNarrowedOnce(t *testing.T) {
	cases := []struct{ a, b, want complex64 }{
		{complex(4, 2), complex(0, 2), complex(1, -2)}, {complex(1, 2), complex(3, 4), complex(0.44, 0.08)}, {complex(1, 1), complex(1, 1), 1},
		// Here a quotient that is reckoned in singles comes to something else.
		{complex(5, -3), complex(-7, 0.7), complex(-0.74964637, 0.3536068)},
		{complex(greatestSingle, greatestSingle), complex(greatestSingle, greatestSingle), 1}, {greatestSingle, complex(greatestSingle, -greatestSingle), complex(0.5, 0.5)}, {1, complex(leastSingle, 0x1p-100), complex(0x1p51, -0x1p100)},
		{complex(leastSingle, -leastSingle), 2, complex(0, minusZero())}, {complex(3*leastSingle, -5*leastSingle), 2, complex(2*leastSingle, -2*leastSingle)}, {greatestSingle, 1, greatestSingle}, {0x1p126, 0.5, 0x1p127},
		{0, complex(0, -3), complex(minusZero(), 0)}, {complex(minusZero(), 0), complex(1, minusZero()), complex(minusZero(), 0)},
	}
	for _, c := range cases {
		if got, ok := impl.RatioSingle(c.a, c.b); !sameNarrow(got, c.want) || !ok {
			t.Errorf("RatioSingle(%v, %v) = %v, %v; want %v, true", c.a, c.b, got, ok, c.want)
		}
	}
	for _, a := range manyNumbers() {
		for _, b := range manyNumbers() {
			want := complex64(complex128(a) / complex128(b))
			wantOk := finiteWide(complex128(a)) && finiteWide(complex128(b)) && !(real(b) == 0 && imag(b) == 0) && finiteWide(complex128(want))
			if !wantOk {
				want = 0
			}
			if got, ok := impl.RatioSingle(a, b); !sameNarrow(got, want) || ok != wantOk {
				t.Fatalf("RatioSingle(%v, %v) = %v, %v; want %v, %v", a, b, got, ok, want, wantOk)
			}
		}
	}
}

func TestRatioSingleRejects(t *testing.T) {
	nan, inf := notANumber(), infinite(1)
	cases := [][2]complex64{
		{complex(nan, 1), 1}, {complex(1, nan), 1}, {complex(inf, 1), 1}, {complex(1, -inf), 1},
		{1, complex(nan, 1)}, {1, complex(1, nan)}, {1, complex(inf, 1)}, {1, complex(1, -inf)}, {0, complex(0, nan)},
		{1, 0}, {1, complex(minusZero(), 0)}, {1, complex(0, minusZero())}, {1, complex(minusZero(), minusZero())}, {0, 0}, {complex(inf, nan), 0},
		// As doubles these are finite.
		{1, leastSingle}, {1, complex(0, leastSingle)}, {complex(greatestSingle, 1), 0.5}, {complex(1, greatestSingle), 0.5}, {complex(-greatestSingle, 1), 0.5}, {complex(1, -greatestSingle), 0.5}, {0x1p127, 0.5}, {greatestSingle, complex(just(1, -1), 0)},
	}
	for _, c := range cases {
		if got, ok := impl.RatioSingle(c[0], c[1]); !sameNarrow(got, 0) || ok {
			t.Errorf("RatioSingle(%v, %v) = %v, %v; want 0, false", c[0], c[1], got, ok)
		}
	}
}

// TestRatioOfANumberAndItselfOrOne is the third sentence of P3.
func TestRatioOfANumberAndItselfOrOne(t *testing.T) {
	for _, z := range manyWideNumbers() {
		if got, ok := impl.Ratio(z, z); ok && real(got) != 1 {
			t.Errorf("Ratio(%v, itself) = %v", z, got)
		}
		if got, ok := impl.Ratio(z, 1); ok != finiteWide(z) || ok && got != z {
			t.Errorf("Ratio(%v, 1) = %v, %v", z, got, ok)
		}
	}
	for _, z := range manyNumbers() {
		finite := finiteWide(complex128(z))
		if got, ok := impl.RatioSingle(z, z); ok != (finite && z != 0) || ok && real(got) != 1 {
			t.Errorf("RatioSingle(%v, itself) = %v, %v", z, got, ok)
		}
		if got, ok := impl.RatioSingle(z, 1); ok != finite || ok && got != z {
			t.Errorf("RatioSingle(%v, 1) = %v, %v", z, got, ok)
		}
	}
}

func TestEqualIsEqualityOfBothParts(t *testing.T) {
	nan := notANumber()
	cases := []struct {
		a, b complex64
		want bool
	}{
		{complex(1, 2), complex(1, 2), true}, {complex(1, 2), complex(2, 1), false}, {complex(1, 2), complex(1, 3), false}, {complex(1, 2), complex(3, 2), false}, {complex(1, 2), complex(1, -2), false},
		{0, complex(minusZero(), minusZero()), true}, {complex(0, minusZero()), complex(minusZero(), 0), true}, {complex(minusZero(), 1), complex(0, 1), true},
		{complex(nan, 1), complex(nan, 1), false}, {complex(1, nan), complex(1, nan), false}, {complex(nan, nan), complex(nan, nan), false}, {complex(nan, 1), complex(1, 1), false},
		{complex(infinite(1), 0), complex(infinite(1), 0), true}, {complex(infinite(1), 0), complex(infinite(-1), 0), false}, {1, complex(just(1, 1), 0), false}, {leastSingle, 0, false},
	}
	for _, c := range cases {
		if ab, ba := impl.Equal(c.a, c.b), impl.Equal(c.b, c.a); ab != c.want || ba != c.want {
			t.Errorf("Equal(%v, %v) = %v, and turned round %v", c.a, c.b, ab, ba)
		}
	}
}

func TestRatioSeriesGoesUpToTheFirstPlaceWithoutRatio(t *testing.T) {
	nan := complex(notANumber(), 0)
	cases := []struct{ a, b, want []complex64 }{
		{[]complex64{2, 4, complex(4, 2)}, []complex64{2, 8, complex(0, 2)}, []complex64{1, 0.5, complex(1, -2)}},
		{[]complex64{2, 4, 6}, []complex64{2, 0, 3}, []complex64{1}},
		{[]complex64{2, 4, nan}, []complex64{1, 1, 1}, []complex64{2, 4}},
		{[]complex64{2, 4, 6}, []complex64{1, 1, complex(minusZero(), minusZero())}, []complex64{2, 4}},
		{[]complex64{2, 4, 6}, []complex64{0, 1, 1}, nil}, {[]complex64{nan, 4}, []complex64{1, 1}, nil}, {[]complex64{greatestSingle, 4}, []complex64{0.5, 1}, nil}, {[]complex64{1}, []complex64{complex(infinite(1), 0)}, nil},
		{nil, nil, nil}, {[]complex64{}, nil, nil}, {nil, []complex64{}, nil}, {[]complex64{}, []complex64{}, nil},
	}
	for _, c := range cases {
		if got, n := impl.RatioSeries(c.a, c.b); !slices.Equal(got, c.want) || n != len(c.want) {
			t.Errorf("RatioSeries(%v, %v) = %v, %d; want %v", c.a, c.b, got, n, c.want)
		}
	}
	got, n := impl.RatioSeries([]complex64{complex(minusZero(), 0), -3}, []complex64{complex(1, minusZero()), 1})
	if n != 2 || len(got) != 2 || !sameNarrow(got[0], complex(minusZero(), 0)) || !sameNarrow(got[1], -3) {
		t.Errorf("the signs of 0 are %v, %d", got, n)
	}
}

// seriesOf returns the numbers 1 to n.
func seriesOf(n int) []complex64 {
	var out []complex64
	for i := range n {
		out = append(out, complex(float32(i+1), 0))
	}
	return out
}

// onesOf returns n times the number 1.
func onesOf(n int) []complex64 { return slices.Repeat([]complex64{1}, n) }

func TestRatioSeriesHasAtMostMaxSeriesElements(t *testing.T) {
	if impl.MaxSeries != 40 {
		t.Errorf("MaxSeries is %d", impl.MaxSeries)
	}
	for n := range impl.MaxSeries + 1 {
		if got, count := impl.RatioSeries(seriesOf(n), onesOf(n)); !slices.Equal(got, seriesOf(n)) || count != n {
			t.Errorf("%d elements: RatioSeries = %v, %d", n, got, count)
		}
	}
	for _, n := range []int{impl.MaxSeries + 1, impl.MaxSeries + 2, 10 * impl.MaxSeries} {
		if got, count := impl.RatioSeries(seriesOf(n), onesOf(n)); got != nil || count != -1 {
			t.Errorf("%d elements: RatioSeries = %v, %d; want nil, -1", n, got, count)
		}
		// The limit comes first, also where the first place has no ratio.
		if got, count := impl.RatioSeries(seriesOf(n), make([]complex64, n)); got != nil || count != -1 {
			t.Errorf("%d elements over 0: RatioSeries = %v, %d; want nil, -1", n, got, count)
		}
	}
	for _, lengths := range [][2]int{{0, 1}, {1, 0}, {2, 3}, {3, 2}, {impl.MaxSeries, impl.MaxSeries - 1}, {impl.MaxSeries, impl.MaxSeries + 1}, {impl.MaxSeries + 1, impl.MaxSeries}, {impl.MaxSeries + 1, 0}} {
		if got, count := impl.RatioSeries(seriesOf(lengths[0]), onesOf(lengths[1])); got != nil || count != -1 {
			t.Errorf("lengths %v: RatioSeries = %v, %d; want nil, -1", lengths, got, count)
		}
		if got, count := impl.RatioSeries(seriesOf(lengths[0]), make([]complex64, lengths[1])); got != nil || count != -1 {
			t.Errorf("lengths %v, over 0: RatioSeries = %v, %d; want nil, -1", lengths, got, count)
		}
	}
}

func TestFirstUnequalTellsThePlace(t *testing.T) {
	nan := complex(0, notANumber())
	cases := []struct {
		a, b []complex64
		want int
	}{
		{nil, nil, -1}, {nil, []complex64{}, -1}, {[]complex64{}, nil, -1}, {nil, []complex64{1}, 0}, {[]complex64{}, []complex64{0, 0}, 0},
		{[]complex64{1, 2, 3}, []complex64{1, 2, 3}, -1}, {[]complex64{1, 2, 3}, []complex64{1, 2, 4}, 2}, {[]complex64{1, 2, 3}, []complex64{0, 2, 3}, 0}, {[]complex64{1, 2, 3}, []complex64{1, 5, 5}, 1},
		{[]complex64{1, 2}, []complex64{1, 2, 3}, 2}, {[]complex64{1, 2}, []complex64{1, 2, 0}, 2}, {[]complex64{1, 7}, []complex64{1, 2, 3}, 1}, {[]complex64{complex(1, 2)}, []complex64{complex(1, -2)}, 0},
		{[]complex64{1, nan, 3}, []complex64{1, nan, 3}, 1}, {[]complex64{nan}, []complex64{nan}, 0}, {[]complex64{1, nan}, []complex64{1}, 1},
		{[]complex64{0, complex(0, minusZero()), 5}, []complex64{complex(minusZero(), 0), 0, 5}, -1}, {[]complex64{0, complex(0, minusZero()), 5}, []complex64{complex(minusZero(), 0), 0, 6}, 2},
		{[]complex64{complex(infinite(1), 0), 1}, []complex64{complex(infinite(1), 0), 2}, 1},
		{seriesOf(1000), seriesOf(1000), -1}, {seriesOf(1000), seriesOf(999), 999}, {append(seriesOf(500), 1), seriesOf(501), 500},
	}
	for _, c := range cases {
		if ab, ba := impl.FirstUnequal(c.a, c.b), impl.FirstUnequal(c.b, c.a); ab != c.want || ba != c.want {
			t.Errorf("FirstUnequal of %d and %d elements = %d, and turned round %d; want %d", len(c.a), len(c.b), ab, ba, c.want)
		}
	}
	whole := seriesOf(5)
	if got := impl.FirstUnequal(whole, whole); got != -1 {
		t.Errorf("FirstUnequal of a series and itself = %d", got)
	}
	whole[3] = nan
	if got := impl.FirstUnequal(whole, whole); got != 3 {
		t.Errorf("FirstUnequal of a series with a NaN and itself = %d; want 3", got)
	}
}

// TestSeriesAreNotChanged looks at the arguments, and at the room behind them, after all calls.
func TestSeriesAreNotChanged(t *testing.T) {
	a, b := []complex64{2, 4, 6, 77}, []complex64{1, 1, 1, 88}
	first, _ := impl.RatioSeries(a[:3], b[:3])
	second, _ := impl.RatioSeries(a[:3], b[:3])
	first[0] = 99
	impl.FirstUnequal(a[:3], b[:3])
	impl.RatioSeries(a[:3], b[:2])
	if want := []complex64{2, 4, 6, 77}; !slices.Equal(a, want) {
		t.Errorf("the first series is %v; want %v", a, want)
	}
	if want := []complex64{1, 1, 1, 88}; !slices.Equal(b, want) {
		t.Errorf("the second series is %v; want %v", b, want)
	}
	if want := []complex64{2, 4, 6}; !slices.Equal(second, want) {
		t.Errorf("the second result is %v; want %v", second, want)
	}
}
