package tests

import (
	"math"
	"slices"
	"testing"

	"loop.example/g03320/impl"
)

// meanTold tells the mean of a good list with elements, in other words than the program.
func meanTold(list []float32) float32 {
	return narrowed(roundedQuotient(orderedSum(list), float64(len(list))))
}

// meansTold tells the means of width neighbors, in other words than the program.
func meansTold(list []float32, width int) []float32 {
	out := []float32{}
	for end := width; end <= len(list); end++ {
		out = append(out, meanTold(list[end-width:end]))
	}
	return out
}

// complexOf returns the numbers with these parts.
func complexOf(reals []float32, imags []float32) []complex64 {
	out := make([]complex64, len(reals))
	for i := range reals {
		out[i] = complex(reals[i], imags[i])
	}
	return out
}

func holdsMean(t *testing.T, list []float32, want float32) {
	t.Helper()
	if got, ok := impl.MeanOf(list); !ok || !sameBits(got, want) {
		t.Errorf("MeanOf(%v) = %v, %v; want %v, true", list, got, ok, want)
	}
}

func TestMeanOf(t *testing.T) {
	holdsMean(t, []float32{7}, 7)
	holdsMean(t, []float32{-7}, -7)
	holdsMean(t, []float32{1, 2}, 1.5)
	holdsMean(t, []float32{1, 2, 3, 6}, 3)
	holdsMean(t, []float32{3, -5}, -1)
	holdsMean(t, []float32{1, 0, 0}, 1.0/3)
	holdsMean(t, []float32{-2, 0, 0}, -2.0/3)
	// Subnormal means: exact ones, and ties, which go to the even one.
	holdsMean(t, []float32{leastSingle}, leastSingle)
	holdsMean(t, []float32{3 * leastSingle, 7 * leastSingle}, 5*leastSingle)
	holdsMean(t, []float32{leastSingle, 2 * leastSingle}, 2*leastSingle)
	holdsMean(t, []float32{2 * leastSingle, 3 * leastSingle}, 2*leastSingle)
	holdsMean(t, []float32{leastSingle, 0}, 0)
	holdsMean(t, []float32{-leastSingle, 0}, minusZero())
	holdsMean(t, []float32{leastSingle, leastSingle, 0}, leastSingle)
	// The greatest ones, whose sum is not a single.
	holdsMean(t, []float32{greatestSingle}, greatestSingle)
	holdsMean(t, alike(greatestSingle, impl.MaxList), greatestSingle)
	holdsMean(t, alike(-greatestSingle, 3), -greatestSingle)
	holdsMean(t, []float32{greatestSingle, just(greatestSingle, -1)}, just(greatestSingle, -1))
	holdsMean(t, []float32{greatestSingle, greatestSingle, just(greatestSingle, -1)}, greatestSingle)
	holdsMean(t, []float32{greatestSingle, -greatestSingle}, 0)
	// The sum starts from 0, so that a mean of zeros is 0.
	holdsMean(t, []float32{minusZero()}, 0)
	holdsMean(t, []float32{minusZero(), minusZero()}, 0)
	holdsMean(t, []float32{minusZero(), 0}, 0)
	holdsMean(t, []float32{0, minusZero()}, 0)
}

func TestMeanOfIsNarrowedOnce(t *testing.T) {
	// Another single, if the sum is narrowed before it is divided.
	holdsMean(t, []float32{3296441, 7469869, 15298321}, 8688210)
	holdsMean(t, []float32{13325734, 2031114, 4378169}, 6578339)
	// Another one, if each element is divided, or the mean is carried on from element to element.
	holdsMean(t, []float32{16125925, 11056258, 139331, 4924845, 15106393, 11673217}, 9837662)
	// Another one, if the sum is multiplied by 1/49.
	holdsMean(t, append([]float32{1490181632, 47}, alike(0, 47)...), 30411872)
	// Others, if the sum is taken in another order.
	holdsMean(t, []float32{far, -far, 1}, 1.0/3)
	holdsMean(t, []float32{1, far, -far}, 0)
	holdsMean(t, []float32{1, far, -far, 1}, 0.25)
}

func TestMeansOfManyLists(t *testing.T) {
	for _, list := range manyLists(40) {
		if len(list) > 0 {
			holdsMean(t, list, meanTold(list))
		}
	}
}

func TestMeanOfRejects(t *testing.T) {
	for _, list := range append(badLists(), nil, []float32{}) {
		if got, ok := impl.MeanOf(list); ok || !sameBits(got, 0) {
			t.Errorf("MeanOf(%v) = %v, %v; want 0, false", list, got, ok)
		}
	}
}

func holdsMeanComplex(t *testing.T, list []complex64, want complex64, wantOk bool) {
	t.Helper()
	if got, ok := impl.MeanComplex(list); ok != wantOk || !sameNarrow(got, want) {
		t.Errorf("MeanComplex(%v) = %v, %v; want %v, %v", list, got, ok, want, wantOk)
	}
}

func TestMeanComplex(t *testing.T) {
	holdsMeanComplex(t, []complex64{complex(1, 1), complex(3, 5)}, complex(2, 3), true)
	holdsMeanComplex(t, []complex64{complex(-1, 7)}, complex(-1, 7), true)
	holdsMeanComplex(t, []complex64{complex(minusZero(), 1)}, complex(0, 1), true)
	holdsMeanComplex(t, []complex64{complex(1, minusZero())}, complex(1, 0), true)
	holdsMeanComplex(t, []complex64{complex(-leastSingle, leastSingle), 0}, complex(minusZero(), 0), true)
	holdsMeanComplex(t, []complex64{complex(greatestSingle, 1), complex(greatestSingle, 0), complex(greatestSingle, 0)}, complex(greatestSingle, 1.0/3), true)
	holdsMeanComplex(t, []complex64{complex(far, 1), complex(-far, far), complex(1, -far)}, complex(1.0/3, 0), true)
	lists := manyLists(4)
	for i, list := range lists {
		if len(list) == 0 {
			continue
		}
		other := slices.Clone(lists[(i*7)%len(lists)])
		imags := append(other, list...)[:len(list)]
		holdsMeanComplex(t, complexOf(list, imags), complex(meanTold(list), meanTold(imags)), true)
	}
}

func TestMeanComplexRejects(t *testing.T) {
	holdsMeanComplex(t, nil, 0, false)
	holdsMeanComplex(t, []complex64{}, 0, false)
	holdsMeanComplex(t, slices.Repeat([]complex64{complex(1, 2)}, impl.MaxList), complex(1, 2), true)
	holdsMeanComplex(t, slices.Repeat([]complex64{complex(1, 2)}, impl.MaxList+1), 0, false)
	for _, list := range badLists() {
		good := alike(3, len(list))
		holdsMeanComplex(t, complexOf(list, good), 0, false)
		holdsMeanComplex(t, complexOf(good, list), 0, false)
		holdsMeanComplex(t, complexOf(list, list), 0, false)
	}
}

func holdsMoving(t *testing.T, list []float32, width int, want []float32) {
	t.Helper()
	if got, ok := impl.MovingMeans(list, width); !ok || !sameList(got, want) {
		t.Errorf("MovingMeans(%v, %d) = %v, %v; want %v, true", list, width, got, ok, want)
	}
}

func TestMovingMeans(t *testing.T) {
	list := []float32{1, 2, 3, 6}
	holdsMoving(t, list, 1, list)
	holdsMoving(t, list, 2, []float32{1.5, 2.5, 4.5})
	holdsMoving(t, list, 3, []float32{2, 11.0 / 3})
	holdsMoving(t, list, 4, []float32{3})
	holdsMoving(t, []float32{5}, 1, []float32{5})
	holdsMoving(t, []float32{minusZero(), -leastSingle, minusZero()}, 1, []float32{0, -leastSingle, 0})
	holdsMoving(t, []float32{minusZero(), -leastSingle, minusZero()}, 2, []float32{minusZero(), minusZero()})
	// Each mean has a sum of its own: what was lost in the one before is not lost in the next one.
	holdsMoving(t, []float32{1, far, -far, 1}, 3, []float32{0, 1.0 / 3})
	holdsMoving(t, []float32{far, 1, 2, 3}, 2, []float32{far / 2, 1.5, 2.5})
	holdsMoving(t, alike(greatestSingle, impl.MaxList), 63, alike(greatestSingle, 2))
	holdsMoving(t, alike(-1, impl.MaxList), impl.MaxList, []float32{-1})
}

func TestMovingMeansOfManyLists(t *testing.T) {
	for _, list := range manyLists(3) {
		for width := 1; width <= len(list); width++ {
			holdsMoving(t, list, width, meansTold(list, width))
		}
	}
}

func TestMovingMeansRejects(t *testing.T) {
	rejects := func(list []float32, width int) {
		t.Helper()
		if got, ok := impl.MovingMeans(list, width); ok || len(got) != 0 {
			t.Errorf("MovingMeans(%v, %d) = %v, %v; want nil, false", list, width, got, ok)
		}
	}
	for _, list := range append(badLists(), nil, []float32{}) {
		for _, width := range []int{-1, 0, 1, 2, len(list), len(list) + 1} {
			rejects(list, width)
		}
	}
	for n := range impl.MaxList + 1 {
		for _, width := range []int{math.MinInt, -n - 1, -n, -1, 0, n + 1, 2*n + 1, math.MaxInt - n, math.MaxInt} {
			if width < 1 || width > n {
				rejects(alike(1, n), width)
			}
		}
	}
}

func TestMeansLieBetweenTheLeastAndTheGreatest(t *testing.T) {
	for _, list := range manyLists(20) {
		if len(list) == 0 {
			continue
		}
		least, greatest := slices.Min(list), slices.Max(list)
		between := func(what string, x float32) {
			if !(least <= x && x <= greatest) {
				t.Errorf("%s of %v is %v, not between %v and %v", what, list, x, least, greatest)
			}
		}
		mean, _ := impl.MeanOf(list)
		between("the mean", mean)
		middle, _ := impl.MiddleOf(list)
		between("the middle one", middle)
		for width := 1; width <= len(list); width++ {
			means, ok := impl.MovingMeans(list, width)
			if !ok || len(means) != len(list)-width+1 {
				t.Fatalf("MovingMeans(%v, %d) = %v, %v", list, width, means, ok)
			}
			for _, x := range means {
				between("a moving mean", x)
			}
		}
	}
}

// elementsOfAllKinds returns finite singles of any size and sign.
func elementsOfAllKinds() []float32 {
	elements := []float32{0, minusZero(), 0.1, 1.0 / 3, 0x1p-126, 16777215, just(0x1p-126, -1), just(greatestSingle, -1)}
	for _, x := range manySingles() {
		if !math.IsNaN(float64(x)) && !math.IsInf(float64(x), 0) {
			elements = append(elements, x)
		}
	}
	return elements
}

func TestElementsThatAreAllAlike(t *testing.T) {
	for _, x := range elementsOfAllKinds() {
		for _, n := range []int{1, 2, 3, 5, 8, 49, impl.MaxList - 1, impl.MaxList} {
			list := alike(x, n)
			if mean, ok := impl.MeanOf(list); !ok || mean != x {
				t.Errorf("MeanOf of %d elements %v = %v, %v", n, x, mean, ok)
			}
			if middle, ok := impl.MiddleOf(list); !ok || !sameBits(middle, x) {
				t.Errorf("MiddleOf of %d elements %v = %v, %v", n, x, middle, ok)
			}
			if spread, ok := impl.SpreadOf(list); !ok || !sameBits(spread, 0) {
				t.Errorf("SpreadOf of %d elements %v = %v, %v", n, x, spread, ok)
			}
			if drift, ok := impl.DriftOf(list); ok != (n > 1) || !sameDoubles(drift, 0) {
				t.Errorf("DriftOf of %d elements %v = %v, %v", n, x, drift, ok)
			}
			if level, ok := impl.Detrend(list); ok != (n > 1) || ok && !sameList(level, list) {
				t.Errorf("Detrend of %d elements %v = %v, %v", n, x, level, ok)
			}
		}
	}
}

// A sum that is 0 is 0 with all signs turned, too; each other one has its sign turned, even where the mean is 0.
func TestMeansWithAllSignsTurned(t *testing.T) {
	for _, list := range manyLists(20) {
		mean, ok := impl.MeanOf(list)
		sum, _ := impl.SumInOrder(list)
		want := flipped(mean)
		if sum == 0 {
			want = 0
		}
		if got, turnedOk := impl.MeanOf(turnedSigns(list)); turnedOk != ok || !sameBits(got, want) {
			t.Errorf("the mean of %v is %v, with all signs turned %v", list, mean, got)
		}
	}
}
