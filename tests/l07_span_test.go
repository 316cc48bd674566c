package tests

import (
	"math"
	"math/rand/v2"
	"slices"
	"testing"

	"loop.example/g03320/impl"
)

func span(low float32, high float32) impl.Span { return impl.Span{Low: low, High: high} }

func sameSpan(a impl.Span, b impl.Span) bool {
	return sameBits(a.Low, b.Low) && sameBits(a.High, b.High)
}

// oneNumber returns the span of x alone.
func oneNumber(x float32) impl.Span { return span(x, x) }

// endsOfAllKinds returns singles, by rising value, of every kind that an end may be.
func endsOfAllKinds() []float32 {
	amounts := []float32{0, leastSingle, 3 * leastSingle, 0x1p-126, 1e-20, 0.75, 1, just(1, 1), 3.5, 0x1p24, 1e30, greatestSingle, infinite(1)}
	var out []float32
	for _, x := range slices.Backward(amounts) {
		out = append(out, -x)
	}
	return append(out, amounts...)
}

// spansOfAllKinds returns the spans between all ends, -0 and 0 in both orders.
func spansOfAllKinds() []impl.Span {
	all := endsOfAllKinds()
	out := []impl.Span{span(0, minusZero())}
	for place, low := range all {
		for _, high := range all[place:] {
			out = append(out, span(low, high))
		}
	}
	return out
}

// invalidSpans returns spans with NaN in one end or in both, or with Low greater than High.
func invalidSpans() []impl.Span {
	nan, otherNaN := notANumber(), math.Float32frombits(0xffc00001)
	out := []impl.Span{span(nan, nan), span(otherNaN, nan), span(otherNaN, 1), span(1, otherNaN)}
	for _, x := range endsOfAllKinds() {
		out = append(out, span(nan, x), span(x, nan))
		if x != infinite(-1) {
			out = append(out, span(x, infinite(-1)), span(x, just(x, -1)))
		}
	}
	return append(out, span(1, -1), span(2, 1), span(infinite(1), 0), span(0, -leastSingle), span(minusZero(), -leastSingle))
}

// someSpan returns a valid span of any two finite singles, or of small whole numbers, or of neighbors.
func someSpan(source *rand.Rand) impl.Span {
	a, b := finiteSingle(source), finiteSingle(source)
	switch source.IntN(4) {
	case 0:
		a, b = float32(source.IntN(21)-10), float32(source.IntN(21)-10)
	case 1:
		b = just(a, 1)
	case 2:
		a = 100 * (source.Float32() - 0.5)
		b = a + source.Float32()
	}
	if b < a {
		a, b = b, a
	}
	return span(a, b)
}

// within returns numbers of a valid span: its ends, their neighbors and any others.
func within(source *rand.Rand, s impl.Span) []float32 {
	out := []float32{s.Low, s.High}
	low, high := rank(s.Low), rank(s.High)
	if low < high {
		out = append(out, ofRank(low+1), ofRank(high-1))
	}
	for range 3 {
		out = append(out, ofRank(low+source.IntN(high-low+1)))
	}
	return out
}

func TestSpanOk(t *testing.T) {
	for _, s := range append(spansOfAllKinds(), span(1, 2), oneNumber(-7), span(infinite(-1), infinite(1)), impl.Span{}) {
		if !impl.SpanOk(s) {
			t.Errorf("%v is not valid", s)
		}
	}
	for _, s := range invalidSpans() {
		if impl.SpanOk(s) {
			t.Errorf("%v is valid", s)
		}
	}
	singles := slices.Concat(endsOfAllKinds(), []float32{notANumber()}, manySingles()[:400])
	for _, low := range singles {
		for _, high := range singles {
			want := low == low && high == high && rank(low) <= rank(high)
			if got := impl.SpanOk(span(low, high)); got != want {
				t.Errorf("SpanOk(%g, %g) = %v", low, high, got)
			}
		}
	}
}

func TestHolds(t *testing.T) {
	inf, least := math.Inf(1), float64(math.SmallestNonzeroFloat64)
	minus := math.Copysign(0, -1)
	cases := []struct {
		s    impl.Span
		x    float64
		want bool
	}{
		{span(1, 4), 1.5, true}, {span(1, 4), 1, true}, {span(1, 4), 4, true}, {span(1, 4), 0, false}, {span(1, 4), 5, false}, {span(1, 4), -2, false},
		// The floats beside an end, which are no singles.
		{span(1, 4), math.Nextafter(1, 0), false}, {span(1, 4), math.Nextafter(1, 2), true}, {span(1, 4), math.Nextafter(4, 0), true}, {span(1, 4), math.Nextafter(4, 5), false},
		{oneNumber(2), 2, true}, {oneNumber(2), math.Nextafter(2, 0), false}, {oneNumber(2), math.Nextafter(2, 3), false},
		{span(0.1, 1), 0.1, false}, {span(-1, 0.1), 0.1, true}, {span(-4, -1), -1.5, true}, {span(-4, -1), 1.5, false},
		{oneNumber(0), 0, true}, {oneNumber(0), minus, true}, {oneNumber(minusZero()), 0, true}, {span(0, minusZero()), 0, true}, {span(0, minusZero()), minus, true}, {span(minusZero(), 0), minus, true},
		{oneNumber(0), least, false}, {oneNumber(0), -least, false}, {span(0, 1), -least, false}, {span(minusZero(), 1), -least, false}, {span(-1, 0), least, false},
		{span(1, infinite(1)), inf, true}, {span(1, infinite(1)), math.MaxFloat64, true}, {span(1, infinite(1)), -inf, false}, {span(infinite(-1), 1), -inf, true}, {span(infinite(-1), 1), -math.MaxFloat64, true},
		{span(infinite(-1), infinite(1)), 0, true}, {oneNumber(infinite(1)), inf, true}, {oneNumber(infinite(1)), math.MaxFloat64, false}, {oneNumber(infinite(-1)), -inf, true}, {oneNumber(infinite(-1)), -math.MaxFloat64, false},
		{span(1, greatestSingle), inf, false}, {span(1, greatestSingle), 0x1p128, false},
	}
	for _, c := range cases {
		if got := impl.Holds(c.s, c.x); got != c.want {
			t.Errorf("Holds(%v, %x) = %v", c.s, c.x, got)
		}
	}
}

func TestHoldsAtAllEnds(t *testing.T) {
	for _, s := range spansOfAllKinds() {
		if impl.Holds(s, math.NaN()) {
			t.Errorf("%v holds NaN", s)
		}
		for _, end := range endsOfAllKinds() {
			for _, x := range beside(float64(end)) {
				want := !(x < float64(s.Low) || x > float64(s.High))
				if got := impl.Holds(s, x); got != want {
					t.Errorf("Holds(%v, %x) = %v", s, x, got)
				}
			}
		}
	}
}

func TestInvalidSpansHoldNothing(t *testing.T) {
	for _, s := range invalidSpans() {
		for _, x := range []float64{float64(s.Low), float64(s.High), (float64(s.Low) + float64(s.High)) / 2, 0, 1, -1, math.Inf(1), math.Inf(-1), math.NaN()} {
			if impl.Holds(s, x) {
				t.Errorf("%v holds %g", s, x)
			}
		}
	}
}

// holdsSpan asks for a span, in the signs of its ends, and true.
func holdsSpan(t *testing.T, name string, got impl.Span, ok bool, want impl.Span) {
	t.Helper()
	if !ok || !sameSpan(got, want) {
		t.Errorf("%s = %v, %v; want %v, true", name, got, ok, want)
	}
}

// holdsNone asks for a zero span and false.
func holdsNone(t *testing.T, name string, got impl.Span, ok bool) {
	t.Helper()
	if ok || !sameSpan(got, impl.Span{}) {
		t.Errorf("%s = %v, %v; want a zero span, false", name, got, ok)
	}
}

func TestNegSpan(t *testing.T) {
	minus, inf := minusZero(), infinite(1)
	cases := []struct{ s, want impl.Span }{
		{span(1, 2), span(-2, -1)}, {span(-2, -1), span(1, 2)}, {span(-1, 2), span(-2, 1)}, {oneNumber(7), oneNumber(-7)},
		{oneNumber(0), oneNumber(minus)}, {oneNumber(minus), oneNumber(0)}, {span(0, minus), span(0, minus)}, {span(minus, 0), span(minus, 0)}, {span(0, 1), span(-1, minus)}, {span(-1, 0), span(minus, 1)},
		{span(1, inf), span(-inf, -1)}, {span(-inf, inf), span(-inf, inf)}, {oneNumber(inf), oneNumber(-inf)}, {oneNumber(-inf), oneNumber(inf)},
		{span(leastSingle, greatestSingle), span(-greatestSingle, -leastSingle)},
	}
	for _, c := range cases {
		got, ok := impl.NegSpan(c.s)
		holdsSpan(t, "NegSpan", got, ok, c.want)
	}
	for _, s := range invalidSpans() {
		got, ok := impl.NegSpan(s)
		holdsNone(t, "NegSpan", got, ok)
	}
}

// TestNegativesLieInTheNegative is a part of P7.
func TestNegativesLieInTheNegative(t *testing.T) {
	source := rand.New(rand.NewPCG(7, 1))
	for _, s := range spansOfAllKinds() {
		negative, ok := impl.NegSpan(s)
		holdsSpan(t, "NegSpan", negative, ok, span(flipped(s.High), flipped(s.Low)))
		for _, number := range within(source, s) {
			for _, x := range beside(float64(number)) {
				if impl.Holds(s, x) != impl.Holds(negative, -x) {
					t.Errorf("%v and its negative %v do not agree about %x", s, negative, x)
				}
			}
		}
		again, ok := impl.NegSpan(negative)
		holdsSpan(t, "the negative of the negative", again, ok, s)
	}
}

func holdsWidth(t *testing.T, s impl.Span, want float64) {
	t.Helper()
	if got := impl.WidthOf(s); !sameDoubles(got, want) {
		t.Errorf("WidthOf(%v) = %x; want %x", s, got, want)
	}
}

func TestWidthOf(t *testing.T) {
	minus := minusZero()
	holdsWidth(t, span(1, 4), 3)
	holdsWidth(t, span(-4, -1), 3)
	holdsWidth(t, span(-1, 4), 5)
	// Exact, but no singles.
	holdsWidth(t, span(0x1p-30, 1), 1-0x1p-30)
	holdsWidth(t, span(-1, 0x1p24), 0x1p24+1)
	holdsWidth(t, span(-greatestSingle, greatestSingle), 2*greatestSingle)
	holdsWidth(t, span(1, just(1, 1)), 0x1p-23)
	holdsWidth(t, span(-leastSingle, leastSingle), 2*leastSingle)
	// Rounded, ties to even.
	holdsWidth(t, span(-1, 0x1p53), 0x1p53)
	holdsWidth(t, span(-3, 0x1p53), 0x1p53+4)
	holdsWidth(t, span(-1, 0x1p60), 0x1p60)
	holdsWidth(t, span(leastSingle, greatestSingle), greatestSingle)
	// One number alone; of the zeros, High less Low is -0 for one order.
	holdsWidth(t, oneNumber(5), 0)
	holdsWidth(t, oneNumber(greatestSingle), 0)
	holdsWidth(t, oneNumber(0), 0)
	holdsWidth(t, oneNumber(minus), 0)
	holdsWidth(t, span(minus, 0), 0)
	holdsWidth(t, span(0, minus), math.Copysign(0, -1))
	holdsWidth(t, impl.Span{}, 0)
}

func TestWidthsOfAllKinds(t *testing.T) {
	for _, s := range spansOfAllKinds() {
		if math.IsInf(float64(s.Low), 0) || math.IsInf(float64(s.High), 0) {
			holdsWidth(t, s, -1)
		} else {
			holdsWidth(t, s, roundedSum(float64(s.High), float64(flipped(s.Low))))
		}
	}
	holdsWidth(t, oneNumber(infinite(1)), -1)
	holdsWidth(t, oneNumber(infinite(-1)), -1)
	for _, s := range invalidSpans() {
		holdsWidth(t, s, -1)
	}
}
