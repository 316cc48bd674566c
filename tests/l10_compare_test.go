package tests

import (
	"math/rand/v2"
	"slices"
	"testing"

	"loop.example/g03320/impl"
)

// comparedTold is CompareRuns in other words than the program.
func comparedTold(a []complex64, b []complex64, u impl.Unit) []int {
	if _, ok := unitTold(u); !ok || len(a) > 60 || len(b) > 60 {
		return nil
	}
	var out []int
	common := min(len(a), len(b))
	for i := range common {
		if !alikeTold(a[i], b[i], u) {
			out = append(out, i)
		}
	}
	for i := common; i < len(a)+len(b)-common; i++ {
		out = append(out, i)
	}
	return out
}

// holdsPlaces asks for the places at which two runs differ, whichever comes first.
func holdsPlaces(t *testing.T, a []complex64, b []complex64, u impl.Unit, want []int) {
	t.Helper()
	if got := impl.CompareRuns(a, b, u); !slices.Equal(got, want) {
		t.Errorf("CompareRuns(%v, %v, %v) = %v; want %v", a, b, u, got, want)
	}
	if got := impl.CompareRuns(b, a, u); !slices.Equal(got, want) {
		t.Errorf("CompareRuns(%v, %v, %v) = %v; want %v", b, a, u, got, want)
	}
}

func TestCompareRuns(t *testing.T) {
	holdsPlaces(t, []complex64{1, 2, 3}, []complex64{1, 2.3}, half(), []int{1, 2})
	holdsPlaces(t, []complex64{1, 2, 3}, []complex64{1, 2.2, 3}, half(), nil)
	holdsPlaces(t, []complex64{1, complex(0, 2)}, []complex64{complex(1, 1), complex(0, 2)}, half(), []int{0})
	holdsPlaces(t, nil, nil, half(), nil)
	holdsPlaces(t, nil, []complex64{}, half(), nil)
	holdsPlaces(t, nil, []complex64{0}, half(), []int{0})
	holdsPlaces(t, []complex64{}, []complex64{7, 8, 9}, half(), []int{0, 1, 2})
	holdsPlaces(t, []complex64{7}, []complex64{7, 0, 9}, half(), []int{1, 2})
	for _, x := range noParts() {
		a, b := []complex64{1, complex(x, 0), 2, complex(0, x)}, []complex64{1, 1, 2, 1}
		holdsPlaces(t, a, b, half(), []int{1, 3})
		holdsPlaces(t, a, a, half(), []int{1, 3})
		holdsPlaces(t, a, a[:3], half(), []int{1, 3})
		holdsPlaces(t, a[:1], b[:1], half(), nil)
	}
}

// TestPlacesAscend asks often, since the order of a map is another one each time.
func TestPlacesAscend(t *testing.T) {
	a, b := seriesOf(60), slices.Repeat([]complex64{-1}, 60)
	var all, odd []int
	for i := range 60 {
		all = append(all, i)
		if i%2 == 1 {
			odd = append(odd, i)
			continue
		}
		b[i] = a[i]
	}
	for range 30 {
		holdsPlaces(t, a, b, one(), odd)
		holdsPlaces(t, a, nil, one(), all)
		holdsPlaces(t, a, b[:31], one(), slices.Concat(odd[:15], all[31:]))
	}
}

func TestCompareRunsHasAtMostMaxCommandsElements(t *testing.T) {
	long := seriesOf(1000)
	for _, n := range []int{0, 1, 59, 60} {
		holdsPlaces(t, long[:60], long[:n], one(), comparedTold(long[:60], long[:n], one()))
		for _, m := range []int{61, 62, 1000} {
			holdsPlaces(t, long[:m], long[:n], one(), nil)
			holdsPlaces(t, long[:m], long[:m], one(), nil)
			holdsPlaces(t, long[:m], long[940:], one(), nil)
		}
	}
	for _, u := range invalidUnits() {
		holdsPlaces(t, long[:3], long[1:4], u, nil)
		holdsPlaces(t, long[:3], nil, u, nil)
		holdsPlaces(t, long[:61], nil, u, nil)
	}
}

// closeRun returns n numbers of few units.
func closeRun(source *rand.Rand, n int, u impl.Unit) []complex64 {
	var out []complex64
	for range n {
		out = append(out, closeNumber(source, u))
	}
	return out
}

// nearRun returns the run with some numbers moved a little, and some replaced.
func nearRun(source *rand.Rand, list []complex64, u impl.Unit) []complex64 {
	out := slices.Clone(list)
	for i, z := range out {
		switch source.IntN(5) {
		case 0:
			out[i] = closeNumber(source, u)
		case 1:
			out[i] = complex(just(real(z), 1), just(imag(z), -1))
		}
	}
	return out
}

func TestCompareManyRuns(t *testing.T) {
	source := rand.New(rand.NewPCG(10, 9))
	count := map[bool]int{}
	for _, u := range manyUnits(300) {
		for range 10 {
			a := closeRun(source, source.IntN(61), u)
			b := nearRun(source, a, u)
			if source.IntN(2) == 0 {
				b = b[:source.IntN(len(b)+1)]
			}
			want := comparedTold(a, b, u)
			holdsPlaces(t, a, b, u, want)
			count[len(want) == 0]++
		}
	}
	if count[true] < 100 || count[false] < 1000 {
		t.Errorf("%v", count)
	}
}

// textsTold is RunText in other words than the program.
func textsTold(list []complex64, u impl.Unit) ([]string, bool) {
	var out []string
	for _, z := range list {
		re, reOk := quantumTold(real(z), u)
		im, imOk := quantumTold(imag(z), u)
		if !reOk || !imOk || len(out) == 60 {
			return nil, false
		}
		out = append(out, impl.FormatPair(re, im))
	}
	return out, true
}

// holdsTexts asks for the texts, or for none and false.
func holdsTexts(t *testing.T, list []complex64, u impl.Unit, want []string, wantOk bool) {
	t.Helper()
	if got, ok := impl.RunText(list, u); !slices.Equal(got, want) || ok != wantOk {
		t.Errorf("RunText(%v, %v) = %q, %v; want %q, %v", list, u, got, ok, want, wantOk)
	}
}

func TestRunText(t *testing.T) {
	holdsTexts(t, []complex64{1, complex(0, -2)}, half(), []string{"+2+0i", "+0-4i"}, true)
	holdsTexts(t, []complex64{complex(-1.25, 0.2), complex(minusZero(), -0.2), complex(5e8, -5e8)}, half(), []string{"-3+0i", "+0+0i", "+1000000000-1000000000i"}, true)
	holdsTexts(t, nil, half(), nil, true)
	holdsTexts(t, []complex64{}, half(), nil, true)
	for _, x := range noParts() {
		for _, z := range []complex64{complex(x, 0), complex(0, x), complex(x, x)} {
			holdsTexts(t, []complex64{z}, half(), nil, false)
			holdsTexts(t, []complex64{z, 1, 2}, half(), nil, false)
			holdsTexts(t, []complex64{1, 2, z}, half(), nil, false)
		}
	}
	for _, u := range invalidUnits() {
		holdsTexts(t, []complex64{1, 0}, u, nil, false)
		// No element is left without a pair where there is none.
		holdsTexts(t, nil, u, nil, true)
	}
}

func TestRunTextHasAtMostMaxCommandsElements(t *testing.T) {
	long := seriesOf(1000)
	for n := range 61 {
		want, _ := textsTold(long[:n], one())
		holdsTexts(t, long[:n], one(), want, true)
		if len(want) != n {
			t.Errorf("%d texts of %d numbers", len(want), n)
		}
	}
	for _, n := range []int{61, 62, 1000} {
		holdsTexts(t, long[:n], one(), nil, false)
		if got, _ := impl.RunText(long[:n], one()); got != nil {
			t.Errorf("of %d numbers: %q", n, got)
		}
	}
}

// TestRunsDifferWhereTheirTextsDo is the last sentence of P10.
func TestRunsDifferWhereTheirTextsDo(t *testing.T) {
	source := rand.New(rand.NewPCG(10, 10))
	count := map[bool]int{}
	for _, u := range manyUnits(300) {
		for range 20 {
			a := closeRun(source, source.IntN(20), u)
			b := nearRun(source, a, u)
			first, firstOk := impl.RunText(a, u)
			second, secondOk := impl.RunText(b, u)
			want, ok := textsTold(a, u)
			holdsTexts(t, a, u, want, ok)
			if count[firstOk && secondOk]++; !firstOk || !secondOk {
				continue
			}
			var places []int
			for i := range first {
				if first[i] != second[i] {
					places = append(places, i)
				}
			}
			holdsPlaces(t, a, b, u, places)
			holdsPlaces(t, a, a, u, nil)
		}
	}
	if count[true] < 1000 || count[false] < 1000 {
		t.Errorf("%v", count)
	}
}
