package tests

import (
	"slices"
	"testing"

	"loop.example/g03320/impl"
)

// spanTold tells the span of a list with elements and without NaN, in other words than the program.
func spanTold(list []float32) impl.Span {
	rising := byValue(list)
	most := slices.Index(rising, rising[len(rising)-1])
	return span(rising[0], rising[most])
}

func holdsSpanOf(t *testing.T, list []float32, want impl.Span) {
	t.Helper()
	if got, ok := impl.SpanOf(list); !ok || !sameSpan(got, want) {
		t.Errorf("SpanOf(%v) = %v, %v; want %v, true", list, got, ok, want)
	}
}

func TestSpanOf(t *testing.T) {
	inf, minus := infinite(1), minusZero()
	holdsSpanOf(t, []float32{3, 1, 2}, span(1, 3))
	holdsSpanOf(t, []float32{1, 2, 3}, span(1, 3))
	holdsSpanOf(t, []float32{2, 3, 1}, span(1, 3))
	holdsSpanOf(t, []float32{-3, -1, -2}, span(-3, -1))
	holdsSpanOf(t, []float32{7}, oneNumber(7))
	holdsSpanOf(t, []float32{7, 7}, oneNumber(7))
	holdsSpanOf(t, []float32{just(1, 1), 1, just(1, -1)}, span(just(1, -1), just(1, 1)))
	holdsSpanOf(t, []float32{leastSingle, -greatestSingle}, span(-greatestSingle, leastSingle))
	// Infinite elements.
	holdsSpanOf(t, []float32{inf}, oneNumber(inf))
	holdsSpanOf(t, []float32{-inf}, oneNumber(-inf))
	holdsSpanOf(t, []float32{-inf, 4, inf}, span(-inf, inf))
	holdsSpanOf(t, []float32{inf, 4, -inf}, span(-inf, inf))
	holdsSpanOf(t, []float32{greatestSingle, inf}, span(greatestSingle, inf))
	holdsSpanOf(t, []float32{-greatestSingle, -inf, 0}, span(-inf, 0))
	// Of the zeros that which stands first.
	holdsSpanOf(t, []float32{0}, oneNumber(0))
	holdsSpanOf(t, []float32{minus}, oneNumber(minus))
	holdsSpanOf(t, []float32{0, minus}, oneNumber(0))
	holdsSpanOf(t, []float32{minus, 0}, oneNumber(minus))
	holdsSpanOf(t, []float32{minus, 1, 0}, span(minus, 1))
	holdsSpanOf(t, []float32{1, 0, minus}, span(0, 1))
	holdsSpanOf(t, []float32{minus, -1, 0}, span(-1, minus))
	holdsSpanOf(t, []float32{-1, 0, minus}, span(-1, 0))
}

func TestSpansOfManyLists(t *testing.T) {
	for number, list := range manyLists(20) {
		if len(list) == 0 {
			continue
		}
		holdsSpanOf(t, list, spanTold(list))
		list[number%len(list)] = infinite(1 - 2*(number%2))
		holdsSpanOf(t, list, spanTold(list))
	}
	for place := range impl.MaxList {
		list := alike(0, impl.MaxList)
		list[place] = 1
		holdsSpanOf(t, list, span(0, 1))
		list[place] = -1
		holdsSpanOf(t, list, span(-1, 0))
	}
}

func TestSpanOfRejects(t *testing.T) {
	lists := [][]float32{nil, {}, alike(0, impl.MaxList+1), alike(infinite(1), impl.MaxList+1), alike(1, 1000), alike(notANumber(), impl.MaxList+1)}
	for n := 1; n <= impl.MaxList; n++ {
		for place := range n {
			list := alike(1, n)
			list[place] = notANumber()
			lists = append(lists, list)
		}
		lists = append(lists, alike(notANumber(), n))
	}
	lists = append(lists, []float32{infinite(-1), notANumber(), infinite(1)}, []float32{notANumber(), infinite(1)})
	for _, list := range lists {
		got, ok := impl.SpanOf(list)
		holdsNone(t, "SpanOf", got, ok)
	}
	for _, x := range []float32{-2, 0, infinite(1)} {
		holdsSpanOf(t, alike(x, impl.MaxList), oneNumber(x))
	}
}

func TestListsOfSinglesAreNotSorted(t *testing.T) {
	for _, list := range append(manyLists(2), []float32{3, 2, 1, -1, 2, 3}, []float32{2, notANumber(), 1}, alike(1, impl.MaxList+1)) {
		// The spare capacity behind the list is looked at, too.
		whole := append(slices.Clone(list), 9, -9, 8)
		kept := slices.Clone(whole)
		impl.SpanOf(whole[:len(list)])
		if !sameList(whole, kept) {
			t.Errorf("%v became %v", kept, whole)
		}
	}
}
