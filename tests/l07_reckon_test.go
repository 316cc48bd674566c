package tests

import (
	"math"
	"math/rand/v2"
	"slices"
	"testing"

	"loop.example/g03320/impl"
)

// anySum returns the float64 sum of two singles, by means of exact numbers where it has some.
func anySum(a float32, b float32) float64 {
	if math.IsInf(float64(a), 0) || math.IsInf(float64(b), 0) {
		return float64(a) + float64(b)
	}
	return roundedSum(float64(a), float64(b))
}

// sumTold tells the sum of two valid spans and whether there is one, in other words than the program.
func sumTold(a impl.Span, b impl.Span) (impl.Span, bool) {
	low, high := anySum(a.Low, b.Low), anySum(a.High, b.High)
	if low != low || high != high {
		return impl.Span{}, false
	}
	return span(downTold(low), upTold(high)), true
}

// productTold tells the product of two valid spans and whether there is one, in other words than the program: the
// products go in, one after another, before the first one that is greater.
func productTold(a impl.Span, b impl.Span) (impl.Span, bool) {
	rising := []float64{}
	for _, x := range []float32{a.Low, a.High} {
		for _, y := range []float32{b.Low, b.High} {
			if math.IsInf(float64(x), 0) || math.IsInf(float64(y), 0) {
				return impl.Span{}, false
			}
			product := roundedProduct(float64(x), float64(y))
			place := 0
			for place < len(rising) && rising[place] <= product {
				place++
			}
			rising = slices.Insert(rising, place, product)
		}
	}
	return span(downTold(rising[0]), upTold(rising[slices.Index(rising, rising[3])])), true
}

func holdsSum(t *testing.T, a impl.Span, b impl.Span, want impl.Span) {
	t.Helper()
	if got, ok := impl.AddSpans(a, b); !ok || !sameSpan(got, want) {
		t.Errorf("AddSpans(%v, %v) = %v, %v; want %v, true", a, b, got, ok, want)
	}
	if got, ok := impl.AddSpans(b, a); !ok || !sameSpan(got, want) {
		t.Errorf("AddSpans(%v, %v) = %v, %v; want %v, true", b, a, got, ok, want)
	}
}

func holdsProduct(t *testing.T, a impl.Span, b impl.Span, want impl.Span) {
	t.Helper()
	if got, ok := impl.MulSpans(a, b); !ok || !sameSpan(got, want) {
		t.Errorf("MulSpans(%v, %v) = %v, %v; want %v, true", a, b, got, ok, want)
	}
}

// holdsNeither asks that a and b have neither a sum nor a product, in both orders.
func holdsNeither(t *testing.T, a impl.Span, b impl.Span) {
	t.Helper()
	for _, pair := range [][2]impl.Span{{a, b}, {b, a}} {
		got, ok := impl.AddSpans(pair[0], pair[1])
		holdsNone(t, "AddSpans", got, ok)
		got, ok = impl.MulSpans(pair[0], pair[1])
		holdsNone(t, "MulSpans", got, ok)
	}
}

func TestAddSpans(t *testing.T) {
	minus := minusZero()
	holdsSum(t, span(1, 2), span(3, 5), span(4, 7))
	holdsSum(t, span(-1, 2), span(-5, 3), span(-6, 5))
	holdsSum(t, oneNumber(1), oneNumber(2), oneNumber(3))
	holdsSum(t, oneNumber(leastSingle), oneNumber(leastSingle), oneNumber(2*leastSingle))
	// Sums that are no singles are rounded outward.
	holdsSum(t, oneNumber(1), oneNumber(0x1p-30), span(1, just(1, 1)))
	holdsSum(t, oneNumber(-1), oneNumber(-0x1p-30), span(just(-1, -1), -1))
	holdsSum(t, span(1, 2), span(0x1p-30, 0x1p-30), span(1, just(2, 1)))
	holdsSum(t, oneNumber(1), oneNumber(-0x1p-30), span(just(1, -1), 1))
	holdsSum(t, oneNumber(0x1p24), oneNumber(1), span(0x1p24, 0x1p24+2))
	holdsSum(t, oneNumber(0x1p24), oneNumber(3), span(0x1p24+2, 0x1p24+4))
	holdsSum(t, oneNumber(1), oneNumber(leastSingle*0x1p97), span(1, just(1, 1)))
	// The sum is that of float64, which is rounded to the nearest number.
	holdsSum(t, oneNumber(0x1p53), oneNumber(1), oneNumber(0x1p53))
	holdsSum(t, oneNumber(far), oneNumber(-1), oneNumber(far))
	holdsSum(t, oneNumber(1), oneNumber(leastSingle), oneNumber(1))
	// The signs of zeros.
	holdsSum(t, oneNumber(minus), oneNumber(minus), oneNumber(minus))
	holdsSum(t, oneNumber(minus), oneNumber(0), oneNumber(0))
	holdsSum(t, span(minus, 0), oneNumber(minus), span(minus, 0))
	holdsSum(t, span(0, minus), span(0, minus), span(0, minus))
	holdsSum(t, oneNumber(1), oneNumber(-1), oneNumber(0))
}

func TestSumsThatOverflow(t *testing.T) {
	const top = greatestSingle
	inf := infinite(1)
	holdsSum(t, oneNumber(top), oneNumber(top), span(top, inf))
	holdsSum(t, oneNumber(-top), oneNumber(-top), span(-inf, -top))
	holdsSum(t, span(-top, top), span(-top, top), span(-inf, inf))
	holdsSum(t, oneNumber(top), oneNumber(0x1p80), span(top, inf))
	holdsSum(t, oneNumber(top), oneNumber(0x1p103), span(top, inf))
	holdsSum(t, oneNumber(top), oneNumber(-0x1p80), span(just(top, -1), top))
	holdsSum(t, oneNumber(top), oneNumber(1), oneNumber(top))
	holdsSum(t, oneNumber(top), oneNumber(-top), oneNumber(0))
}

func TestSumsWithInfiniteEnds(t *testing.T) {
	inf := infinite(1)
	whole := span(-inf, inf)
	holdsSum(t, span(1, inf), span(2, 3), span(3, inf))
	holdsSum(t, span(-inf, 1), span(2, 3), span(-inf, 4))
	holdsSum(t, span(-inf, 1), span(2, inf), whole)
	holdsSum(t, whole, whole, whole)
	holdsSum(t, whole, oneNumber(5), whole)
	holdsSum(t, oneNumber(inf), oneNumber(inf), oneNumber(inf))
	holdsSum(t, oneNumber(-inf), oneNumber(-inf), oneNumber(-inf))
	holdsSum(t, oneNumber(inf), span(-5, inf), oneNumber(inf))
	// Infinite ends of both signs meet: in both sums, in that of the Lows, in that of the Highs.
	holdsNeither(t, oneNumber(inf), oneNumber(-inf))
	holdsNeither(t, oneNumber(inf), span(-inf, 5))
	holdsNeither(t, oneNumber(inf), whole)
	holdsNeither(t, oneNumber(-inf), span(5, inf))
	holdsNeither(t, oneNumber(-inf), whole)
}

func TestMulSpansOfAllSigns(t *testing.T) {
	holdsProduct(t, span(1, 2), span(3, 5), span(3, 10))
	holdsProduct(t, span(-1, 2), span(3, 5), span(-5, 10))
	holdsProduct(t, span(-2, -1), span(3, 5), span(-10, -3))
	holdsProduct(t, span(1, 2), span(-5, 3), span(-10, 6))
	holdsProduct(t, span(-1, 2), span(-5, 3), span(-10, 6))
	holdsProduct(t, span(-4, 2), span(-5, 3), span(-12, 20))
	holdsProduct(t, span(-2, 4), span(-5, 3), span(-20, 12))
	holdsProduct(t, span(-2, -1), span(-5, 3), span(-6, 10))
	holdsProduct(t, span(1, 2), span(-5, -3), span(-10, -3))
	holdsProduct(t, span(-1, 2), span(-5, -3), span(-10, 5))
	holdsProduct(t, span(-2, -1), span(-5, -3), span(3, 10))
	holdsProduct(t, oneNumber(-3), oneNumber(-3), oneNumber(9))
	holdsProduct(t, span(-3, 3), span(-3, 3), span(-9, 9))
}

func TestMulSpansRoundsOutward(t *testing.T) {
	const least, top = leastSingle, greatestSingle
	inf, minus := infinite(1), minusZero()
	above := just(1, 1)
	holdsProduct(t, oneNumber(above), oneNumber(above), span(1+0x1p-22, 1+0x1p-22+0x1p-23))
	holdsProduct(t, oneNumber(-above), oneNumber(above), span(-1-0x1p-22-0x1p-23, -1-0x1p-22))
	holdsProduct(t, span(1, above), span(1, above), span(1, 1+0x1p-22+0x1p-23))
	holdsProduct(t, oneNumber(0x1p23+1), oneNumber(3), span(0x1.8p24+2, 0x1.8p24+4))
	// Subnormal products, and such as are less than the least single or half of it.
	holdsProduct(t, oneNumber(0x1p-126), oneNumber(0.5), oneNumber(0x1p-127))
	holdsProduct(t, oneNumber(3*least), oneNumber(0.5), span(least, 2*least))
	holdsProduct(t, oneNumber(least), oneNumber(least), span(0, least))
	holdsProduct(t, oneNumber(-least), oneNumber(least), span(-least, minus))
	holdsProduct(t, span(-least, least), span(-least, least), span(-least, least))
	holdsProduct(t, oneNumber(0.5), oneNumber(least), span(0, least))
	holdsProduct(t, oneNumber(-0.5), oneNumber(least), span(-least, minus))
	holdsProduct(t, oneNumber(0.75), oneNumber(least), span(minus, least))
	holdsProduct(t, oneNumber(-0.75), oneNumber(least), span(-least, 0))
	// Products that overflow.
	holdsProduct(t, oneNumber(top), oneNumber(2), span(top, inf))
	holdsProduct(t, oneNumber(top), oneNumber(-2), span(-inf, -top))
	holdsProduct(t, oneNumber(top), oneNumber(above), span(top, inf))
	holdsProduct(t, span(-top, top), span(-top, top), span(-inf, inf))
	holdsProduct(t, span(1, top), span(1, top), span(1, inf))
	holdsProduct(t, oneNumber(top), oneNumber(1), oneNumber(top))
}

func TestProductsThatAreZero(t *testing.T) {
	minus := minusZero()
	// One span of one zero: the product has the sign of that which comes first.
	holdsProduct(t, oneNumber(0), oneNumber(0), oneNumber(0))
	holdsProduct(t, oneNumber(minus), oneNumber(0), oneNumber(minus))
	holdsProduct(t, oneNumber(minus), oneNumber(minus), oneNumber(0))
	holdsProduct(t, oneNumber(0), span(1, 2), oneNumber(0))
	holdsProduct(t, oneNumber(minus), span(1, 2), oneNumber(minus))
	holdsProduct(t, oneNumber(0), span(-1, 1), oneNumber(minus))
	holdsProduct(t, oneNumber(minus), span(-1, 1), oneNumber(0))
	holdsProduct(t, span(-1, 1), oneNumber(0), oneNumber(minus))
	holdsProduct(t, span(-1, 1), oneNumber(minus), oneNumber(0))
	holdsProduct(t, span(minus, 0), oneNumber(5), oneNumber(minus))
	holdsProduct(t, span(0, minus), oneNumber(5), oneNumber(0))
	// The first one, Low Low, is the greatest, and those with Low High before High Low are equal.
	holdsProduct(t, span(-2, 0), span(-3, minus), span(0, 6))
	holdsProduct(t, span(-2, minus), span(-3, 0), span(minus, 6))
	holdsProduct(t, span(-2, minus), span(-3, minus), span(0, 6))
	holdsProduct(t, span(-2, 0), span(-3, 0), span(minus, 6))
	// The last one, High High, is the greatest.
	holdsProduct(t, span(0, 2), span(0, 3), span(0, 6))
	holdsProduct(t, span(minus, 2), span(0, 3), span(minus, 6))
	holdsProduct(t, span(0, 2), span(minus, 3), span(minus, 6))
	// The least one comes second or third, and the greatest ones are equal.
	holdsProduct(t, span(0, 2), span(-3, minus), span(-6, minus))
	holdsProduct(t, span(0, 2), span(-3, 0), span(-6, minus))
	holdsProduct(t, span(minus, 2), span(-3, 0), span(-6, 0))
	holdsProduct(t, span(-3, 0), span(0, 2), span(-6, minus))
	holdsProduct(t, span(-3, minus), span(minus, 2), span(-6, 0))
}

func TestProductsWithInfiniteEnds(t *testing.T) {
	inf := infinite(1)
	for _, open := range []impl.Span{span(1, inf), span(-inf, 1), span(-inf, inf), oneNumber(inf), oneNumber(-inf), span(0, inf)} {
		for _, s := range []impl.Span{span(1, 2), oneNumber(0), span(-1, 1), oneNumber(minusZero()), open} {
			got, ok := impl.MulSpans(open, s)
			holdsNone(t, "MulSpans", got, ok)
			got, ok = impl.MulSpans(s, open)
			holdsNone(t, "MulSpans", got, ok)
		}
	}
}

func TestSumsAndProductsOfInvalidSpans(t *testing.T) {
	for _, bad := range invalidSpans() {
		for _, s := range []impl.Span{span(1, 2), {}, span(-2, 3), span(infinite(-1), infinite(1)), bad} {
			holdsNeither(t, bad, s)
		}
	}
	// Ends that would make a valid span: Low and High are exchanged in one or in both.
	holdsNeither(t, span(2, 1), span(1, 5))
	holdsNeither(t, span(1, -1), span(1, -1))
}

// holdsBoth asks for the sum and the product that are told.
func holdsBoth(t *testing.T, a impl.Span, b impl.Span) {
	t.Helper()
	sum, ok := sumTold(a, b)
	if got, gotOk := impl.AddSpans(a, b); gotOk != ok || !sameSpan(got, sum) {
		t.Errorf("AddSpans(%v, %v) = %v, %v; want %v, %v", a, b, got, gotOk, sum, ok)
	}
	product, ok := productTold(a, b)
	if got, gotOk := impl.MulSpans(a, b); gotOk != ok || !sameSpan(got, product) {
		t.Errorf("MulSpans(%v, %v) = %v, %v; want %v, %v", a, b, got, gotOk, product, ok)
	}
}

func TestSumsAndProductsOfAllKinds(t *testing.T) {
	all := spansOfAllKinds()
	for _, a := range all {
		for _, b := range all {
			holdsBoth(t, a, b)
		}
	}
	source := rand.New(rand.NewPCG(7, 2))
	for range 20000 {
		holdsBoth(t, someSpan(source), someSpan(source))
	}
}

// holdsNumbers asks that the sums and the products of numbers of a and b lie in those of the spans.
func holdsNumbers(t *testing.T, source *rand.Rand, a impl.Span, b impl.Span) {
	t.Helper()
	sum, sumOk := impl.AddSpans(a, b)
	product, productOk := impl.MulSpans(a, b)
	for _, x := range within(source, a) {
		for _, y := range within(source, b) {
			// Infinite numbers of both signs have no sum.
			if number := float64(x) + float64(y); sumOk && number == number && !impl.Holds(sum, number) {
				t.Errorf("%g + %g is not in the sum %v of %v and %v", x, y, sum, a, b)
			}
			if productOk && !impl.Holds(product, float64(x)*float64(y)) {
				t.Errorf("%g * %g is not in the product %v of %v and %v", x, y, product, a, b)
			}
		}
	}
}

// TestNumbersLieInSumAndProduct is a part of P7.
func TestNumbersLieInSumAndProduct(t *testing.T) {
	source := rand.New(rand.NewPCG(7, 3))
	for _, a := range spansOfAllKinds() {
		for range 20 {
			holdsNumbers(t, source, a, someSpan(source))
			holdsNumbers(t, source, someSpan(source), a)
		}
	}
	for range 5000 {
		holdsNumbers(t, source, someSpan(source), someSpan(source))
	}
}
