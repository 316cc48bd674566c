package tests

import (
	"math"
	"slices"
	"testing"

	"loop.example/g03320/impl"
)

// byValue returns the elements by rising value, equal ones in the order of the list, in other words than the program:
// each one goes in before the first one that is greater.
func byValue(list []float32) []float32 {
	out := []float32{}
	for _, x := range list {
		place := 0
		for place < len(out) && out[place] <= x {
			place++
		}
		out = slices.Insert(out, place, x)
	}
	return out
}

// holdsSpread asks for the spread, in its sign, or for 0 and false if it is not finite.
func holdsSpread(t *testing.T, list []float32, want float32) {
	t.Helper()
	wantOk := !math.IsInf(float64(want), 0)
	if !wantOk {
		want = 0
	}
	if got, ok := impl.SpreadOf(list); ok != wantOk || !sameBits(got, want) {
		t.Errorf("SpreadOf(%v) = %v, %v; want %v, %v", list, got, ok, want, wantOk)
	}
}

func TestSpreadOf(t *testing.T) {
	holdsSpread(t, []float32{7}, 0)
	holdsSpread(t, []float32{-7}, 0)
	holdsSpread(t, []float32{7, 7}, 0)
	holdsSpread(t, []float32{1, 2, 3, 6}, 5)
	holdsSpread(t, []float32{6, 1, 3, 2}, 5)
	holdsSpread(t, []float32{2, 6, 1, 3}, 5)
	holdsSpread(t, []float32{-1, -6, -2}, 5)
	holdsSpread(t, []float32{3, -4}, 7)
	holdsSpread(t, []float32{leastSingle, -leastSingle}, 2*leastSingle)
	// Rounded to float32, ties to even.
	holdsSpread(t, []float32{0x1p24, -1}, 0x1p24)
	holdsSpread(t, []float32{-3, 0x1p24}, 0x1p24+4)
	// At the limit of float32.
	holdsSpread(t, []float32{greatestSingle, 0, 5}, greatestSingle)
	holdsSpread(t, []float32{-just(0x1p103, -1), greatestSingle}, greatestSingle)
	holdsSpread(t, []float32{-0x1p103, greatestSingle}, infinite(1))
	holdsSpread(t, []float32{greatestSingle, -greatestSingle}, infinite(1))
	holdsSpread(t, []float32{-greatestSingle, 1, greatestSingle}, infinite(1))
	holdsSpread(t, []float32{0x1p127, -0x1p127}, infinite(1))
}

func TestSpreadOfZeros(t *testing.T) {
	minus := minusZero()
	// The last one less the first one: -0 only where 0 stands first and -0 last.
	holdsSpread(t, []float32{0}, 0)
	holdsSpread(t, []float32{minus}, 0)
	holdsSpread(t, []float32{0, 0}, 0)
	holdsSpread(t, []float32{minus, minus}, 0)
	holdsSpread(t, []float32{minus, 0}, 0)
	holdsSpread(t, []float32{0, minus}, minus)
	holdsSpread(t, []float32{0, minus, 0}, 0)
	holdsSpread(t, []float32{minus, 0, minus}, 0)
	holdsSpread(t, []float32{0, 0, minus, minus}, minus)
	holdsSpread(t, []float32{0, 1, minus}, 1)
	holdsSpread(t, []float32{minus, -1, 0}, 1)
}

func TestSpreadsOfManyLists(t *testing.T) {
	for _, list := range manyLists(40) {
		if len(list) == 0 {
			continue
		}
		rising := byValue(list)
		want := narrowed(roundedSum(float64(rising[len(rising)-1]), float64(flipped(rising[0]))))
		holdsSpread(t, list, want)
		if turned, ok := impl.SpreadOf(turnedSigns(list)); ok == math.IsInf(float64(want), 0) || ok && turned != want {
			t.Errorf("SpreadOf(%v) = %v, with all signs turned %v", list, want, turned)
		}
	}
}

func holdsMiddle(t *testing.T, list []float32, want float32) {
	t.Helper()
	if got, ok := impl.MiddleOf(list); !ok || !sameBits(got, want) {
		t.Errorf("MiddleOf(%v) = %v, %v; want %v, true", list, got, ok, want)
	}
}

func TestMiddleOf(t *testing.T) {
	minus := minusZero()
	holdsMiddle(t, []float32{7}, 7)
	holdsMiddle(t, []float32{2, 1}, 1)
	holdsMiddle(t, []float32{1, 2}, 1)
	holdsMiddle(t, []float32{3, 1, 2}, 2)
	holdsMiddle(t, []float32{6, 3, 1, 2}, 2)
	holdsMiddle(t, []float32{-5, -1, -4, -2, -3}, -3)
	holdsMiddle(t, []float32{5, 5, 1, 5, 9, 9}, 5)
	holdsMiddle(t, []float32{9, 1, 9, 9}, 9)
	holdsMiddle(t, []float32{greatestSingle, -greatestSingle, leastSingle}, leastSingle)
	// The zeros in the order of the list.
	holdsMiddle(t, []float32{0}, 0)
	holdsMiddle(t, []float32{minus}, minus)
	holdsMiddle(t, []float32{0, minus}, 0)
	holdsMiddle(t, []float32{minus, 0}, minus)
	holdsMiddle(t, []float32{0, minus, 0}, minus)
	holdsMiddle(t, []float32{minus, 0, minus}, 0)
	holdsMiddle(t, []float32{1, minus, 0, -1}, minus)
	holdsMiddle(t, []float32{1, 0, minus, -1}, 0)
	holdsMiddle(t, []float32{0, minus, -1, -2}, -1)
}

func TestMiddleOfManyZeros(t *testing.T) {
	for n := 1; n <= impl.MaxList; n++ {
		for place := range n {
			list := alike(0, n)
			list[place] = minusZero()
			holdsMiddle(t, list, list[(n-1)/2])
		}
	}
}

func TestMiddlesOfManyLists(t *testing.T) {
	for _, list := range manyLists(40) {
		if len(list) > 0 {
			holdsMiddle(t, list, byValue(list)[(len(list)-1)/2])
		}
	}
}

func TestSpreadAndMiddleReject(t *testing.T) {
	for _, list := range append(badLists(), nil, []float32{}) {
		if got, ok := impl.SpreadOf(list); ok || !sameBits(got, 0) {
			t.Errorf("SpreadOf(%v) = %v, %v; want 0, false", list, got, ok)
		}
		if got, ok := impl.MiddleOf(list); ok || !sameBits(got, 0) {
			t.Errorf("MiddleOf(%v) = %v, %v; want 0, false", list, got, ok)
		}
	}
}

func TestCountEqual(t *testing.T) {
	minus, nan := minusZero(), notANumber()
	list := []float32{1, nan, 0, infinite(1), minus, 1, infinite(-1), infinite(1), just(1, 1), nan, -1, 1}
	cases := []struct {
		list []float32
		x    float32
		want int
	}{
		{nil, 0, 0}, {[]float32{}, 0, 0}, {[]float32{1, 2, 1}, 1, 2}, {[]float32{1, 2, 1}, 2, 1}, {[]float32{1, 2, 1}, 3, 0}, {[]float32{1}, 1, 1},
		{list, 1, 3}, {list, -1, 1}, {list, 0, 2}, {list, minus, 2}, {list, nan, 0}, {list, infinite(1), 2}, {list, infinite(-1), 1}, {list, just(1, 1), 1}, {list, just(1, -1), 0}, {list, leastSingle, 0},
		{[]float32{nan}, nan, 0}, {[]float32{nan, 4}, 4, 1}, {[]float32{infinite(1), 4}, 4, 1},
		{alike(2, impl.MaxList), 2, impl.MaxList}, {alike(2, impl.MaxList), 3, 0}, {alike(infinite(1), impl.MaxList), infinite(1), impl.MaxList},
		{alike(2, impl.MaxList+1), 2, 0}, {alike(0, impl.MaxList+1), minus, 0}, {alike(nan, impl.MaxList+1), nan, 0}, {alike(infinite(-1), impl.MaxList+1), infinite(-1), 0}, {alike(2, 1000), 2, 0},
	}
	for _, c := range cases {
		if got := impl.CountEqual(c.list, c.x); got != c.want {
			t.Errorf("CountEqual(%v, %v) = %d; want %d", c.list, c.x, got, c.want)
		}
	}
}

func TestCountsAreAllElements(t *testing.T) {
	for _, list := range manyLists(10) {
		counts := map[float32]int{}
		for _, x := range list {
			counts[x]++
		}
		all := 0
		for x, want := range counts {
			got := impl.CountEqual(list, x)
			if got != want {
				t.Errorf("CountEqual(%v, %v) = %d; want %d", list, x, got, want)
			}
			all += got
		}
		if all != len(list) {
			t.Errorf("the counts of %v are %d in all", list, all)
		}
	}
}
