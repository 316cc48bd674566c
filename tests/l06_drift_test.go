package tests

import (
	"math"
	"slices"
	"testing"

	"loop.example/g03320/impl"
)

// driftTold tells the drift of a good list of two elements or more, in other words than the program.
func driftTold(list []float32) float64 {
	n := len(list)
	sum := 0.0
	weight := -(n - 1)
	for _, x := range list {
		sum = roundedSum(sum, roundedProduct(float64(weight), float64(x)))
		weight += 2
	}
	return roundedQuotient(roundedProduct(sum, 6), float64(n*n*n-n))
}

// leveled tells the elements less their drift, in other words than the program, be they finite or not.
func leveled(list []float32) []float32 {
	drift := driftTold(list)
	out := []float32{}
	for i, x := range list {
		out = append(out, narrowed(roundedSum(float64(x), reversed(roundedProduct(drift, float64(i))))))
	}
	return out
}

func holdsDrift(t *testing.T, list []float32, want float64) {
	t.Helper()
	if got, ok := impl.DriftOf(list); !ok || !sameDoubles(got, want) {
		t.Errorf("DriftOf(%v) = %v, %v; want %v, true", list, got, ok, want)
	}
}

// line returns n elements from start on, each one step beside the one before.
func line(start float32, step float32, n int) []float32 {
	out := make([]float32, n)
	for i := range out {
		out[i] = start + float32(i)*step
	}
	return out
}

func TestDriftOfLines(t *testing.T) {
	for n := 2; n <= impl.MaxList; n++ {
		for _, start := range []float32{0, 5, -100} {
			for _, step := range []float32{0, 1, -1, 3, -0.5, 0x1p-10} {
				holdsDrift(t, line(start, step, n), float64(step))
			}
		}
	}
	holdsDrift(t, []float32{1, 2, 3, 6}, 1.6)
	holdsDrift(t, []float32{6, 3, 2, 1}, -1.6)
	holdsDrift(t, []float32{1, 5, 1}, 0)
	holdsDrift(t, []float32{leastSingle, 2 * leastSingle}, leastSingle)
	holdsDrift(t, []float32{-greatestSingle, greatestSingle}, 2*greatestSingle)
	holdsDrift(t, []float32{greatestSingle, 5, -greatestSingle}, -greatestSingle)
	holdsDrift(t, []float32{0x1p24, -1}, -0x1p24-1)
}

func TestDriftsAreReckonedInOrder(t *testing.T) {
	minus := minusZero()
	// The products are -3, -far, far and 3: other sums of them are -3 and 0. 18/60 is 0.3, which 3/60*6 is not.
	holdsDrift(t, []float32{1, far, far, 1}, 0.3)
	holdsDrift(t, []float32{1, -far, -far, 1}, 0.3)
	holdsDrift(t, []float32{far, 1, 1, -far}, -0.6*far)
	holdsDrift(t, []float32{far, 1, far, 1, far}, 0)
	holdsDrift(t, []float32{0, far, 9, far, 4}, 0.8)
	holdsDrift(t, []float32{4, far, 9, far, 0}, 0)
	// Six times the sum is rounded before it is divided, although the quotient would be exact without both.
	holdsDrift(t, []float32{2, 0x1p53}, 0x1p53-3)
	// The sum starts from 0, so that it is never -0.
	holdsDrift(t, []float32{0, minus}, 0)
	holdsDrift(t, []float32{minus, 0}, 0)
	holdsDrift(t, []float32{0, 0}, 0)
	holdsDrift(t, []float32{minus, minus}, 0)
	holdsDrift(t, []float32{0, 0, minus, minus}, 0)
}

func TestDriftsOfManyLists(t *testing.T) {
	for _, list := range manyLists(40) {
		if len(list) > 1 {
			holdsDrift(t, list, driftTold(list))
		}
	}
}

// A sum of products that is 0 is 0 with all signs turned, too; each other drift has its sign turned.
func TestDriftsWithAllSignsTurned(t *testing.T) {
	for _, list := range manyLists(20) {
		drift, ok := impl.DriftOf(list)
		want := reversed(drift)
		if drift == 0 {
			want = 0
		}
		if got, turnedOk := impl.DriftOf(turnedSigns(list)); turnedOk != ok || !sameDoubles(got, want) {
			t.Errorf("the drift of %v is %v, with all signs turned %v", list, drift, got)
		}
	}
}

// holdsLevel asks for the elements less their drift, or for nil and false if one is not finite.
func holdsLevel(t *testing.T, list []float32, want []float32) {
	t.Helper()
	wantOk := !slices.ContainsFunc(want, func(x float32) bool { return math.IsInf(float64(x), 0) })
	if !wantOk {
		want = nil
	}
	if got, ok := impl.Detrend(list); ok != wantOk || !sameList(got, want) {
		t.Errorf("Detrend(%v) = %v, %v; want %v, %v", list, got, ok, want, wantOk)
	}
}

func TestDetrend(t *testing.T) {
	minus := minusZero()
	holdsLevel(t, []float32{0, 2}, []float32{0, 0})
	holdsLevel(t, []float32{5, 2}, []float32{5, 5})
	holdsLevel(t, []float32{1, 5, 1}, []float32{1, 5, 1})
	holdsLevel(t, []float32{1, 2, 3, 6}, []float32{1, 0.4, -0.2, narrowed(6 - 1.6*3)})
	// 0 less the product of the drift and the place 0, which has the sign of the drift.
	holdsLevel(t, []float32{minus, 1}, []float32{minus, 0})
	holdsLevel(t, []float32{minus, -1}, []float32{0, 0})
	holdsLevel(t, []float32{0, 1}, []float32{0, 0})
	holdsLevel(t, []float32{0, -1}, []float32{0, 0})
	holdsLevel(t, []float32{minus, minus}, []float32{minus, minus})
	for n := 2; n <= impl.MaxList; n++ {
		for _, step := range []float32{1, -1, 0.25} {
			holdsLevel(t, line(7, step, n), alike(7, n))
		}
	}
}

func TestDetrendRoundsEachStep(t *testing.T) {
	list := []float32{0, 0.563, 1.126, 1.6890001, 2.252, 2.815, 3.3780003}
	// Another rest, if the product is fused with the difference, or if drift, product or difference are singles.
	if got, ok := impl.Detrend(list); !ok || !sameBits(got[3], 0x1.249248p-25) {
		t.Errorf("Detrend(%v) = %v, %v", list, got, ok)
	}
	list = []float32{0, 1.801, 3.602, 5.403, 7.204, 9.005, 10.806}
	if got, ok := impl.Detrend(list); !ok || !sameBits(got[3], -0x1.249248p-24) {
		t.Errorf("Detrend(%v) = %v, %v", list, got, ok)
	}
}

func TestDetrendIsFinite(t *testing.T) {
	const top = greatestSingle
	below := just(0x1p103, -1)
	// The drift of these three is -2^103, and then a little more: the second element is past float32, and then rounded to its greatest one.
	holdsLevel(t, []float32{0x1p103, top, -0x1p103}, []float32{0x1p103, infinite(1), 0x1p103})
	holdsLevel(t, []float32{below, top, -below}, []float32{below, top, below})
	holdsLevel(t, []float32{-below, -top, below}, []float32{-below, -top, -below})
	holdsLevel(t, []float32{-0x1p103, -top, 0x1p103}, []float32{-0x1p103, infinite(-1), -0x1p103})
	holdsLevel(t, []float32{top, top, -top}, []float32{top, infinite(1), top})
	holdsLevel(t, []float32{top, -top, -top}, []float32{top, 0, top})
	holdsLevel(t, []float32{top, -top}, []float32{top, top})
	holdsLevel(t, []float32{-top, top}, []float32{-top, -top})
	holdsLevel(t, []float32{top, -top, -top, top}, []float32{top, -top, -top, top})
	// Only the last one is past float32, and then none.
	holdsLevel(t, []float32{top, top / 2, -top, top}, []float32{top, 0.65 * top, -0.7 * top, infinite(1)})
	holdsLevel(t, []float32{-top, -top / 2, top, -top}, []float32{-top, -0.65 * top, 0.7 * top, infinite(-1)})
	holdsLevel(t, []float32{top, -top, -top, 0}, []float32{top, -0.7 * top, -0.4 * top, 0.9 * top})
}

func TestDetrendOfManyLists(t *testing.T) {
	past := 0
	for _, list := range manyLists(40) {
		if len(list) < 2 {
			continue
		}
		want := leveled(list)
		holdsLevel(t, list, want)
		if slices.ContainsFunc(want, func(x float32) bool { return math.IsInf(float64(x), 0) }) {
			past++
		}
	}
	if past < 50 {
		t.Error("only", past, "lists have a rest that is not finite")
	}
}

func TestDriftAndDetrendReject(t *testing.T) {
	for _, list := range append(badLists(), nil, []float32{}, []float32{0}, []float32{minusZero()}, []float32{7}, []float32{greatestSingle}) {
		if got, ok := impl.DriftOf(list); ok || !sameDoubles(got, 0) {
			t.Errorf("DriftOf(%v) = %v, %v; want 0, false", list, got, ok)
		}
		if got, ok := impl.Detrend(list); ok || len(got) != 0 {
			t.Errorf("Detrend(%v) = %v, %v; want nil, false", list, got, ok)
		}
	}
}

// askAll calls each function of the chapter and returns the lists that it got.
func askAll(list []float32) [][]float32 {
	impl.SumInOrder(list)
	impl.PairSum(list)
	impl.MeanOf(list)
	impl.SpreadOf(list)
	impl.MiddleOf(list)
	impl.DriftOf(list)
	impl.CountEqual(list, 1)
	level, _ := impl.Detrend(list)
	got := [][]float32{level}
	for _, width := range []int{1, 2, len(list)} {
		means, _ := impl.MovingMeans(list, width)
		got = append(got, means)
	}
	return got
}

func TestListsAreNotChanged(t *testing.T) {
	for _, list := range append(manyLists(4), []float32{3, 2, 1, -1, 2, 3}, []float32{2, notANumber(), 1}, alike(1, impl.MaxList+1)) {
		// The spare capacity behind the list is looked at, too.
		whole := append(slices.Clone(list), 9, -9, 8)
		kept := slices.Clone(whole)
		for _, got := range askAll(whole[:len(list)]) {
			for i := range got {
				got[i] = -77
			}
			got = got[:cap(got)]
			for i := range got {
				got[i] = -78
			}
		}
		if !sameList(whole, kept) {
			t.Errorf("%v became %v", kept, whole)
		}
	}
}

func TestComplexListsAreNotChanged(t *testing.T) {
	whole := []complex64{complex(3, -1), complex(1, 2), complex(2, 0), complex(9, 9)}
	kept := slices.Clone(whole)
	impl.MeanComplex(whole[:3])
	if !slices.Equal(whole, kept) {
		t.Errorf("%v became %v", kept, whole)
	}
}

func TestListsAreNotKept(t *testing.T) {
	list := []float32{1, 2, 4, 7}
	first, _ := impl.MovingMeans(list, 1)
	level, _ := impl.Detrend(list)
	keptFirst, keptLevel := slices.Clone(first), slices.Clone(level)
	clear(list)
	if !sameList(first, keptFirst) || !sameList(level, keptLevel) {
		t.Errorf("the results became %v and %v", first, level)
	}
}
