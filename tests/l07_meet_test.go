package tests

import (
	"math"
	"math/rand/v2"
	"slices"
	"testing"

	"loop.example/g03320/impl"
)

func holdsMeet(t *testing.T, a impl.Span, b impl.Span, want impl.Span) {
	t.Helper()
	if got, ok := impl.MeetSpans(a, b); !ok || !sameSpan(got, want) {
		t.Errorf("MeetSpans(%v, %v) = %v, %v; want %v, true", a, b, got, ok, want)
	}
}

func holdsHull(t *testing.T, a impl.Span, b impl.Span, want impl.Span) {
	t.Helper()
	if got, ok := impl.HullSpans(a, b); !ok || !sameSpan(got, want) {
		t.Errorf("HullSpans(%v, %v) = %v, %v; want %v, true", a, b, got, ok, want)
	}
}

// apart asks that a and b have no number in common, and for their hull, in both orders.
func apart(t *testing.T, a impl.Span, b impl.Span, hull impl.Span) {
	t.Helper()
	got, ok := impl.MeetSpans(a, b)
	holdsNone(t, "MeetSpans", got, ok)
	got, ok = impl.MeetSpans(b, a)
	holdsNone(t, "MeetSpans", got, ok)
	holdsHull(t, a, b, hull)
	holdsHull(t, b, a, hull)
}

// together asks for what a and b have in common and for their hull, in both orders.
func together(t *testing.T, a impl.Span, b impl.Span, meet impl.Span, hull impl.Span) {
	t.Helper()
	holdsMeet(t, a, b, meet)
	holdsMeet(t, b, a, meet)
	holdsHull(t, a, b, hull)
	holdsHull(t, b, a, hull)
}

func TestMeetAndHull(t *testing.T) {
	inf := infinite(1)
	whole := span(-inf, inf)
	// They touch in one number, overlap, lie in one another, are alike.
	together(t, span(1, 3), span(3, 9), oneNumber(3), span(1, 9))
	together(t, span(1, 4), span(3, 9), span(3, 4), span(1, 9))
	together(t, span(1, 9), span(3, 4), span(3, 4), span(1, 9))
	together(t, span(1, 9), span(1, 4), span(1, 4), span(1, 9))
	together(t, span(1, 9), span(4, 9), span(4, 9), span(1, 9))
	together(t, span(1, 9), oneNumber(9), oneNumber(9), span(1, 9))
	together(t, span(1, 9), oneNumber(5), oneNumber(5), span(1, 9))
	together(t, span(1, 9), span(1, 9), span(1, 9), span(1, 9))
	together(t, span(-4, 2), span(-1, 7), span(-1, 2), span(-4, 7))
	together(t, oneNumber(5), oneNumber(5), oneNumber(5), oneNumber(5))
	apart(t, span(1, 2), span(3, 4), span(1, 4))
	apart(t, span(1, 2), span(just(2, 1), 4), span(1, 4))
	apart(t, oneNumber(1), oneNumber(just(1, -1)), span(just(1, -1), 1))
	apart(t, span(-4, -leastSingle), span(0, 1), span(-4, 1))
	apart(t, span(-4, -3), span(3, 4), span(-4, 4))
	together(t, whole, span(1, 2), span(1, 2), whole)
	together(t, whole, whole, whole, whole)
	together(t, span(-inf, 3), span(1, inf), span(1, 3), whole)
	together(t, span(5, inf), oneNumber(inf), oneNumber(inf), span(5, inf))
	together(t, span(-inf, 5), oneNumber(-inf), oneNumber(-inf), span(-inf, 5))
	apart(t, oneNumber(inf), oneNumber(-inf), whole)
	apart(t, oneNumber(inf), span(0, greatestSingle), span(0, inf))
}

func TestMeetAndHullTakeTheZeroOfTheFirst(t *testing.T) {
	minus := minusZero()
	holdsMeet(t, span(0, 1), span(minus, 2), span(0, 1))
	holdsMeet(t, span(minus, 2), span(0, 1), span(minus, 1))
	holdsMeet(t, span(-1, 0), span(-2, minus), span(-1, 0))
	holdsMeet(t, span(-2, minus), span(-1, 0), span(-1, minus))
	holdsMeet(t, oneNumber(0), oneNumber(minus), oneNumber(0))
	holdsMeet(t, oneNumber(minus), oneNumber(0), oneNumber(minus))
	holdsMeet(t, span(0, minus), span(minus, 0), span(0, minus))
	holdsMeet(t, span(minus, 0), span(0, minus), span(minus, 0))
	holdsHull(t, span(0, 1), span(minus, 2), span(0, 2))
	holdsHull(t, span(minus, 2), span(0, 1), span(minus, 2))
	holdsHull(t, span(-1, 0), span(-2, minus), span(-2, 0))
	holdsHull(t, span(-2, minus), span(-1, 0), span(-2, minus))
	holdsHull(t, oneNumber(0), oneNumber(minus), oneNumber(0))
	holdsHull(t, oneNumber(minus), oneNumber(0), oneNumber(minus))
	holdsHull(t, span(0, minus), span(minus, 0), span(0, minus))
	holdsHull(t, span(minus, 0), span(0, minus), span(minus, 0))
	// They touch in 0: the ends of what they have in common come from different spans.
	together(t, span(-1, minus), span(0, 1), span(0, minus), span(-1, 1))
	together(t, span(-1, 0), span(minus, 1), span(minus, 0), span(-1, 1))
}

func TestMeetAndHullOfInvalidSpans(t *testing.T) {
	for _, bad := range invalidSpans() {
		for _, s := range []impl.Span{span(1, 2), {}, span(infinite(-1), infinite(1)), oneNumber(bad.Low), oneNumber(bad.High), bad} {
			for _, pair := range [][2]impl.Span{{bad, s}, {s, bad}} {
				got, ok := impl.MeetSpans(pair[0], pair[1])
				holdsNone(t, "MeetSpans", got, ok)
				got, ok = impl.HullSpans(pair[0], pair[1])
				holdsNone(t, "HullSpans", got, ok)
			}
		}
	}
}

// probes returns floats at and beside all ends.
func probes(list ...impl.Span) []float64 {
	out := []float64{math.Inf(-1), math.Inf(1), math.NaN()}
	for _, s := range list {
		out = append(out, beside(float64(s.Low))...)
		out = append(out, beside(float64(s.High))...)
	}
	return out
}

// holdsCommon asks that just the numbers that lie in both spans lie in what they have in common, and that the hull has
// those of both and no end of its own.
func holdsCommon(t *testing.T, a impl.Span, b impl.Span) {
	t.Helper()
	common, ok := impl.MeetSpans(a, b)
	hull, hullOk := impl.HullSpans(a, b)
	for _, x := range probes(a, b) {
		inA, inB := impl.Holds(a, x), impl.Holds(b, x)
		if got := ok && impl.Holds(common, x); got != (inA && inB) {
			t.Errorf("%x is in %v and in %v: %v, %v; in %v, %v: %v", x, a, b, inA, inB, common, ok, got)
		}
		if (inA || inB) && !(hullOk && impl.Holds(hull, x)) {
			t.Errorf("%x is not in the hull %v of %v and %v", x, hull, a, b)
		}
	}
	lowOfOne := sameBits(hull.Low, a.Low) || sameBits(hull.Low, b.Low)
	highOfOne := sameBits(hull.High, a.High) || sameBits(hull.High, b.High)
	if !lowOfOne || !highOfOne {
		t.Errorf("the hull %v of %v and %v has an end of its own", hull, a, b)
	}
}

// TestNumbersInCommonLieInBoth is the last part of P7.
func TestNumbersInCommonLieInBoth(t *testing.T) {
	all := spansOfAllKinds()
	for _, a := range all {
		for _, b := range all {
			holdsCommon(t, a, b)
		}
	}
	source := rand.New(rand.NewPCG(7, 4))
	for range 20000 {
		holdsCommon(t, someSpan(source), someSpan(source))
	}
}

// agreed tells what valid spans have in common, and whether there is something, in other words than the program.
func agreed(list []impl.Span) (impl.Span, bool) {
	lows, highs := []float32{}, []float32{}
	for _, s := range list {
		lows = append(lows, flipped(s.Low))
		highs = append(highs, s.High)
	}
	low, high := flipped(byValue(lows)[0]), byValue(highs)[0]
	if rank(low) > rank(high) {
		return impl.Span{}, false
	}
	return span(low, high), true
}

func holdsAgree(t *testing.T, list []impl.Span, want impl.Span, wantOk bool) {
	t.Helper()
	if got, ok := impl.Agree(list); ok != wantOk || !sameSpan(got, want) {
		t.Errorf("Agree(%v) = %v, %v; want %v, %v", list, got, ok, want, wantOk)
	}
}

func TestAgree(t *testing.T) {
	inf, minus := infinite(1), minusZero()
	holdsAgree(t, []impl.Span{span(1, 4), span(2, 9)}, span(2, 4), true)
	holdsAgree(t, []impl.Span{span(1, 4)}, span(1, 4), true)
	holdsAgree(t, []impl.Span{oneNumber(minus)}, oneNumber(minus), true)
	holdsAgree(t, []impl.Span{span(-inf, inf)}, span(-inf, inf), true)
	holdsAgree(t, []impl.Span{span(1, 9), span(-inf, 7), span(3, inf), span(2, 8)}, span(3, 7), true)
	// In one number alone.
	holdsAgree(t, []impl.Span{span(1, 5), span(0, 9), span(5, 7)}, oneNumber(5), true)
	holdsAgree(t, []impl.Span{span(-1, 0), span(minus, 1), span(-3, minus)}, span(minus, 0), true)
	holdsAgree(t, []impl.Span{oneNumber(0), oneNumber(minus)}, oneNumber(0), true)
	holdsAgree(t, []impl.Span{oneNumber(minus), oneNumber(0), oneNumber(0)}, oneNumber(minus), true)
	// Not at all, although some of them do, or the last one has 0.
	holdsAgree(t, []impl.Span{span(1, 2), span(3, 4)}, impl.Span{}, false)
	holdsAgree(t, []impl.Span{span(1, 2), span(3, 4), span(-1, 1)}, impl.Span{}, false)
	holdsAgree(t, []impl.Span{span(1, 2), span(3, 4), span(1, 4), span(-9, 9)}, impl.Span{}, false)
	holdsAgree(t, []impl.Span{span(1, 3), span(2, 5), span(4, 6)}, impl.Span{}, false)
	holdsAgree(t, []impl.Span{span(1, 5), span(2, 5), span(just(5, 1), 6)}, impl.Span{}, false)
	holdsAgree(t, []impl.Span{span(4, 6), span(1, 9), span(2, just(4, -1))}, impl.Span{}, false)
}

func TestAgreeLooksAtTheNumberOfSpans(t *testing.T) {
	holdsAgree(t, nil, impl.Span{}, false)
	holdsAgree(t, []impl.Span{}, impl.Span{}, false)
	for n := 1; n <= impl.MaxList; n++ {
		list := slices.Repeat([]impl.Span{span(-3, 3)}, n)
		holdsAgree(t, list, span(-3, 3), true)
		list[n-1] = span(1, 9)
		holdsAgree(t, list[n-1:], span(1, 9), true)
		if n > 1 {
			holdsAgree(t, list, span(1, 3), true)
		}
	}
	for _, n := range []int{impl.MaxList + 1, impl.MaxList + 2, 1000} {
		holdsAgree(t, slices.Repeat([]impl.Span{span(-3, 3)}, n), impl.Span{}, false)
	}
}

func TestAgreeRejectsAnInvalidSpanAtEachPlace(t *testing.T) {
	for _, bad := range invalidSpans() {
		for _, n := range []int{1, 2, 3, 4, impl.MaxList} {
			for _, place := range []int{0, n / 2, n - 1} {
				list := slices.Repeat([]impl.Span{span(infinite(-1), infinite(1))}, n)
				list[place] = bad
				holdsAgree(t, list, impl.Span{}, false)
			}
		}
	}
	for place := range impl.MaxList {
		list := slices.Repeat([]impl.Span{span(1, 2)}, impl.MaxList)
		list[place] = span(1, notANumber())
		holdsAgree(t, list, impl.Span{}, false)
	}
}

// someSpans returns n spans that agree, or most of them do.
func someSpans(source *rand.Rand, n int) []impl.Span {
	list := make([]impl.Span, n)
	for i := range list {
		switch source.IntN(3) {
		case 0:
			list[i] = span(-float32(source.IntN(5)), float32(source.IntN(5)))
		case 1:
			list[i] = span(minusZero(), float32(source.IntN(3)))
		default:
			list[i] = span(-size32(finiteSingle(source)), size32(finiteSingle(source)))
		}
	}
	if source.IntN(4) == 0 {
		list[source.IntN(n)] = someSpan(source)
	}
	return list
}

func size32(x float32) float32 { return float32(size(x)) }

func TestManyListsOfSpansAgreeOrNot(t *testing.T) {
	source := rand.New(rand.NewPCG(7, 5))
	disagreed := 0
	for round := range 4000 {
		list := someSpans(source, 1+round%impl.MaxList)
		want, ok := agreed(list)
		holdsAgree(t, list, want, ok)
		if !ok {
			disagreed++
		}
		for _, x := range probes(list...) {
			inAll := !slices.ContainsFunc(list, func(s impl.Span) bool { return !impl.Holds(s, x) })
			if got := ok && impl.Holds(want, x); got != inAll {
				t.Errorf("%x is in all of %v: %v; in %v: %v", x, list, inAll, want, got)
			}
		}
	}
	if disagreed < 100 || disagreed > 2000 {
		t.Error(disagreed, "lists of spans do not agree")
	}
}

func TestListsOfSpansAreNotChanged(t *testing.T) {
	source := rand.New(rand.NewPCG(7, 6))
	for n := 1; n <= impl.MaxList+1; n++ {
		// The spare capacity behind the list is looked at, too.
		whole := append(someSpans(source, n), span(9, -9), span(8, 8))
		kept := slices.Clone(whole)
		impl.Agree(whole[:n])
		if !slices.EqualFunc(whole, kept, sameSpan) {
			t.Errorf("%v became %v", kept, whole)
		}
	}
}
