package tests

import (
	"math"
	"slices"
	"testing"

	"loop.example/g03320/impl"
)

func just(x float32, sign int) float32 { return math.Nextafter32(x, infinite(sign)) }

// threeRanges has a gap between a Down and the Up of the range before it, and one range whose Down
// is this Up.
func threeRanges() []impl.Range {
	return []impl.Range{{Full: 1, Down: 0, Up: 1}, {Full: 10, Down: 0.5, Up: 8}, {Full: 100, Down: 8, Up: 90}}
}

// decades returns n ranges, each for amounts ten times those of the one before it.
func decades(n int) []impl.Range {
	var out []impl.Range
	full := float32(0.001)
	for range n {
		out = append(out, impl.Range{Full: full, Down: full / 20, Up: full * 0.9})
		full *= 10
	}
	return out
}

// validLists returns lists with every edge that a valid list may have.
func validLists() map[string][]impl.Range {
	return map[string][]impl.Range{
		"three ranges":                   threeRanges(),
		"one range":                      {{Full: 5, Down: 1, Up: 4}},
		"as many as there may be":        decades(impl.MaxRanges),
		"Down is 0":                      {{Full: 1, Down: 0, Up: 1}, {Full: 2, Down: 0, Up: 1}, {Full: 3, Down: 0, Up: 2}},
		"Down is -0":                     {{Full: 1, Down: minusZero(), Up: 1}, {Full: 2, Down: minusZero(), Up: 2}},
		"Down is the Up before":          {{Full: 1, Down: 0.5, Up: 0.75}, {Full: 2, Down: 0.75, Up: 1.5}, {Full: 4, Down: 1.5, Up: 4}},
		"Down is just below Up":          {{Full: 8, Down: just(4, -1), Up: 4}},
		"first Down is above the second": {{Full: 8, Down: 6, Up: 7}, {Full: 9, Down: 1, Up: 8}},
		"Up falls":                       {{Full: 8, Down: 1, Up: 7}, {Full: 9, Down: 2, Up: 3}, {Full: 10, Down: 1, Up: 10}},
		"Full is Up":                     {{Full: 8, Down: 1, Up: 8}, {Full: just(8, 1), Down: 8, Up: just(8, 1)}},
		"Full is MinFull":                {{Full: impl.MinFull, Down: 0, Up: leastSingle}, {Full: 1, Down: leastSingle, Up: 1}},
		"Full is the greatest single":    {{Full: 1, Down: 0, Up: 1}, {Full: greatestSingle, Down: 1, Up: greatestSingle}},
	}
}

// invalidLists returns lists that are not valid, nearly all of them with one fault alone.
func invalidLists() map[string][]impl.Range {
	change := func(at int, change func(r *impl.Range)) []impl.Range {
		list := threeRanges()
		change(&list[at])
		return list
	}
	least := float32(impl.MinFull)
	return map[string][]impl.Range{
		"nil":                               nil,
		"no range":                          {},
		"one range too many":                decades(impl.MaxRanges + 1),
		"Down below 0":                      {{Full: 1, Down: -leastSingle, Up: 1}},
		"second Down below 0":               change(1, func(r *impl.Range) { r.Down = -0.5 }),
		"Down is -Inf":                      {{Full: 1, Down: infinite(-1), Up: 1}},
		"Down is Up":                        {{Full: 1, Down: 0.5, Up: 0.5}},
		"second Down is Up":                 {{Full: 1, Down: 0, Up: 1}, {Full: 10, Down: 1, Up: 1}, {Full: 100, Down: 1, Up: 90}},
		"Down and Up are 0":                 {{Full: 1, Down: 0, Up: 0}},
		"Down above Up":                     {{Full: 1, Down: just(0.5, 1), Up: 0.5}},
		"Full below Up":                     {{Full: just(1, -1), Down: 0, Up: 1}},
		"last Full below Up":                change(2, func(r *impl.Range) { r.Full = just(r.Up, -1) }),
		"Full below MinFull":                {{Full: just(least, -1), Down: 0, Up: leastSingle}},
		"all is 0":                          {{Full: 0, Down: 0, Up: 0}},
		"Full below 0":                      {{Full: -1, Down: 0, Up: 1}},
		"Full is infinite":                  {{Full: infinite(1), Down: 0, Up: 1}},
		"last Full is infinite":             change(2, func(r *impl.Range) { r.Full = infinite(1) }),
		"Full and Up are infinite":          {{Full: infinite(1), Down: 0, Up: infinite(1)}},
		"Up is infinite":                    {{Full: greatestSingle, Down: 0, Up: infinite(1)}},
		"Full is NaN":                       {{Full: notANumber(), Down: 0, Up: 1}},
		"last Full is NaN":                  change(2, func(r *impl.Range) { r.Full = notANumber() }),
		"Down is NaN":                       {{Full: 1, Down: notANumber(), Up: 1}},
		"second Down is NaN":                change(1, func(r *impl.Range) { r.Down = notANumber() }),
		"Up is NaN":                         {{Full: 1, Down: 0, Up: notANumber()}},
		"last Up is NaN":                    change(2, func(r *impl.Range) { r.Up = notANumber() }),
		"Full as before":                    {{Full: 4, Down: 0, Up: 3}, {Full: 4, Down: 1, Up: 4}},
		"Full below the one before":         {{Full: 4, Down: 0, Up: 3}, {Full: just(4, -1), Down: 1, Up: 3}},
		"last Full as before":               change(2, func(r *impl.Range) { r.Full, r.Up = 10, 9 }),
		"Down above the Up before":          {{Full: 1, Down: 0, Up: 0.5}, {Full: 2, Down: just(0.5, 1), Up: 2}},
		"last Down above the Up before":     change(2, func(r *impl.Range) { r.Down = 9 }),
		"Down below Full, not Up, before":   {{Full: 4, Down: 0, Up: 2}, {Full: 8, Down: 3, Up: 7}},
		"only the first Full is too small":  change(0, func(r *impl.Range) { r.Full = 0.5 }),
		"only the first Down is not below":  change(0, func(r *impl.Range) { r.Down = 1 }),
		"the order is turned round":         {{Full: 10, Down: 1, Up: 8}, {Full: 1, Down: 0, Up: 1}},
		"only the last of many is in doubt": append(decades(impl.MaxRanges-1), impl.Range{Full: 1e9, Down: 1e5, Up: 1e5}),
	}
}

// readingsFor returns readings at, just below and just above each number of the list, with both
// signs, and the readings that are special by themselves.
func readingsFor(list []impl.Range) []float32 {
	out := []float32{notANumber(), math.Float32frombits(0xffc00001)}
	amounts := []float32{0, leastSingle, 0.3, 1, 3, 70, greatestSingle, infinite(1)}
	for _, r := range list {
		for _, x := range []float32{r.Full, r.Down, r.Up} {
			amounts = append(amounts, x, just(x, 1), just(x, -1), x/3, x/2)
		}
	}
	for _, x := range amounts {
		out = append(out, x, -x)
	}
	return out
}

// noIndexes returns indexes that refer to no element of the list.
func noIndexes(list []impl.Range) []int {
	return []int{-1, -2, len(list), len(list) + 1, math.MinInt, math.MinInt + 1, math.MaxInt, math.MaxInt - 1}
}

func size(x float32) float64 { return math.Abs(float64(x)) }

func TestRangesOkTakesValidLists(t *testing.T) {
	for name, list := range validLists() {
		if !impl.RangesOk(list) {
			t.Errorf("%s: %v is not valid", name, list)
		}
	}
	for n := 1; n <= impl.MaxRanges; n++ {
		if !impl.RangesOk(decades(n)) {
			t.Errorf("%d ranges are not valid", n)
		}
	}
}

func TestRangesOkRejectsListsWithAFault(t *testing.T) {
	for name, list := range invalidLists() {
		if impl.RangesOk(list) {
			t.Errorf("%s: %v is valid", name, list)
		}
	}
}

func TestStepRangeAtItsLimits(t *testing.T) {
	list := threeRanges()
	cases := []struct {
		at   int
		x    float32
		want int
	}{
		{0, 0, 0}, {0, 1, 0}, {0, -1, 0}, {0, just(1, 1), 1}, {0, -just(1, 1), 1}, {0, 50, 1}, {0, -1000, 1},
		{1, 0.5, 1}, {1, -0.5, 1}, {1, just(0.5, -1), 0}, {1, -just(0.5, -1), 0}, {1, 0, 0}, {1, minusZero(), 0},
		{1, 8, 1}, {1, -8, 1}, {1, just(8, 1), 2}, {1, -just(8, 1), 2}, {1, 9, 2}, {1, 3, 1},
		{2, 8, 2}, {2, -8, 2}, {2, just(8, -1), 1}, {2, -just(8, -1), 1}, {2, 0, 1}, {2, 90, 2}, {2, 91, 2}, {2, -1000, 2},
		{0, leastSingle, 0}, {1, leastSingle, 0}, {2, -leastSingle, 1},
		{0, greatestSingle, 1}, {1, -greatestSingle, 2}, {2, greatestSingle, 2},
		{0, infinite(1), 1}, {1, infinite(-1), 2}, {2, infinite(1), 2}, {2, infinite(-1), 2},
		{0, notANumber(), 0}, {1, notANumber(), 1}, {2, notANumber(), 2},
	}
	for _, c := range cases {
		if got := impl.StepRange(list, c.at, c.x); got != c.want {
			t.Errorf("StepRange(at %d, %v) = %d; want %d", c.at, c.x, got, c.want)
		}
	}
}

func TestStepRangeLeavesNeitherEnd(t *testing.T) {
	// The first Down is above 0, but there is no range below the first one.
	list := []impl.Range{{Full: 8, Down: 6, Up: 7}, {Full: 9, Down: 1, Up: 8}}
	for _, x := range []float32{0, 5, just(6, -1), -2} {
		if got := impl.StepRange(list, 0, x); got != 0 {
			t.Errorf("StepRange(at 0, %v) = %d; want 0", x, got)
		}
	}
	single := []impl.Range{{Full: 5, Down: 1, Up: 4}}
	for _, x := range readingsFor(single) {
		if got := impl.StepRange(single, 0, x); got != 0 {
			t.Errorf("StepRange in one range, %v = %d; want 0", x, got)
		}
	}
}

func TestSettleGoesThroughManyRanges(t *testing.T) {
	list := decades(impl.MaxRanges)
	last := len(list) - 1
	for at := range list {
		if got := impl.Settle(list, at, 0); got != 0 {
			t.Errorf("Settle(at %d, 0) = %d; want 0", at, got)
		}
		if got := impl.Settle(list, at, infinite(-1)); got != last {
			t.Errorf("Settle(at %d, -Inf) = %d; want %d", at, got, last)
		}
		if got := impl.Settle(list, at, notANumber()); got != at {
			t.Errorf("Settle(at %d, NaN) = %d; want %d", at, got, at)
		}
		// 0.07 is below the Down of all ranges from the fourth on, and above the Up of the first two.
		if got, want := impl.Settle(list, at, 0.07), min(max(at, 2), 3); got != want {
			t.Errorf("Settle(at %d, 0.07) = %d; want %d", at, got, want)
		}
	}
}

// TestReadingMovesOneWayUntilItStays is the first sentence of P2.
func TestReadingMovesOneWayUntilItStays(t *testing.T) {
	for name, list := range validLists() {
		for at := range list {
			for _, x := range readingsFor(list) {
				path := []int{at}
				for here := at; len(path) <= len(list)+1; path = append(path, here) {
					next := impl.StepRange(list, here, x)
					if next == here {
						break
					}
					here = next
				}
				if len(path) > len(list) {
					t.Errorf("%s: %v does not stay: %v", name, x, path)
					continue
				}
				way := path[min(1, len(path)-1)] - at
				for i := 1; i < len(path); i++ {
					if path[i]-path[i-1] != way || way != 1 && way != -1 {
						t.Errorf("%s: %v goes to and fro: %v", name, x, path)
					}
				}
				if got := impl.Settle(list, at, x); got != path[len(path)-1] {
					t.Errorf("%s: Settle(at %d, %v) = %d; the steps are %v", name, at, x, got, path)
				}
				if got := impl.Settle(list, at, -x); got != path[len(path)-1] {
					t.Errorf("%s: Settle(at %d, %v) = %d; the steps of %v are %v", name, at, -x, got, x, path)
				}
			}
		}
	}
}

func TestStepAndSettleRejectWhatIsNotThere(t *testing.T) {
	for name, list := range invalidLists() {
		for at := -1; at <= len(list); at++ {
			for _, x := range []float32{0, 1, -1000, notANumber(), infinite(1)} {
				if step, settle := impl.StepRange(list, at, x), impl.Settle(list, at, x); step != -1 || settle != -1 {
					t.Errorf("%s: at %d, %v: StepRange = %d, Settle = %d", name, at, x, step, settle)
				}
			}
		}
	}
	for name, list := range validLists() {
		for _, at := range noIndexes(list) {
			for _, x := range []float32{0, 1, -1000, notANumber(), infinite(1)} {
				if step, settle := impl.StepRange(list, at, x), impl.Settle(list, at, x); step != -1 || settle != -1 {
					t.Errorf("%s: at %d, %v: StepRange = %d, Settle = %d", name, at, x, step, settle)
				}
			}
		}
	}
}

func TestRunRangeGoesOnFromTheRangeBefore(t *testing.T) {
	list := threeRanges()
	cases := []struct {
		at   int
		xs   []float32
		want []int
	}{
		{0, []float32{5, -9, 6, 0.25}, []int{1, 2, 1, 0}},
		{2, []float32{0.25, 0.75, 1, 2, 1, 0.5, 0.25}, []int{0, 0, 0, 1, 1, 1, 0}},
		{1, []float32{notANumber(), 7, notANumber(), infinite(-1), notANumber(), minusZero()}, []int{1, 1, 1, 2, 2, 0}},
		{2, nil, []int{}},
		{0, []float32{}, []int{}},
		{1, []float32{1000}, []int{2}},
	}
	for _, c := range cases {
		if got := impl.RunRange(list, c.at, c.xs); !slices.Equal(got, c.want) {
			t.Errorf("RunRange(at %d, %v) = %v; want %v", c.at, c.xs, got, c.want)
		}
	}
}

// manyReadings returns n readings that go up and down through all of the list.
func manyReadings(list []impl.Range, n int) []float32 {
	all := readingsFor(list)
	out := make([]float32, 0, n)
	for i := range n {
		out = append(out, all[i*7%len(all)])
	}
	return out
}

func TestRunRangeIsSettleAfterSettle(t *testing.T) {
	for name, list := range validLists() {
		xs := manyReadings(list, impl.MaxReadings)
		for at := range list {
			var want []int
			here := at
			for _, x := range xs {
				here = impl.Settle(list, here, x)
				want = append(want, here)
			}
			if got := impl.RunRange(list, at, xs); !slices.Equal(got, want) {
				t.Errorf("%s: RunRange(at %d) = %v; want %v", name, at, got, want)
			}
		}
	}
}

func TestRunRangeRejects(t *testing.T) {
	list := threeRanges()
	if got := impl.RunRange(list, 0, make([]float32, impl.MaxReadings)); len(got) != impl.MaxReadings {
		t.Errorf("of MaxReadings readings there are %d ranges", len(got))
	}
	for _, n := range []int{impl.MaxReadings + 1, impl.MaxReadings + 2, 10 * impl.MaxReadings} {
		if got := impl.RunRange(list, 0, make([]float32, n)); got != nil {
			t.Errorf("%d readings: RunRange = %v; want nil", n, got)
		}
	}
	for _, at := range noIndexes(list) {
		if got := impl.RunRange(list, at, []float32{1, 2}); got != nil {
			t.Errorf("at %d: RunRange = %v; want nil", at, got)
		}
	}
	for name, list := range invalidLists() {
		for at := -1; at <= len(list); at++ {
			if got := impl.RunRange(list, at, []float32{1, 2}); got != nil {
				t.Errorf("%s: at %d: RunRange = %v; want nil", name, at, got)
			}
		}
	}
}

// TestRangesAreNotChanged looks at the arguments, and at the room behind them, after all calls.
func TestRangesAreNotChanged(t *testing.T) {
	list := append(threeRanges(), impl.Range{Full: 7, Down: 7, Up: 7})
	xs := []float32{5, -9, 6, 0.25, 77}
	first := impl.RunRange(list[:3], 0, xs[:4])
	second := impl.RunRange(list[:3], 0, xs[:4])
	first[0] = 99
	impl.RangesOk(list[:3])
	impl.StepRange(list[:3], 1, 9)
	impl.Settle(list[:3], 0, 50)
	impl.Overload(list[:3], 0, 5)
	impl.BestRange(list[:3], 5)
	impl.CodeOf(list[:3], 1, 5)
	impl.ValueOf(list[:3], 1, 5)
	if want := append(threeRanges(), impl.Range{Full: 7, Down: 7, Up: 7}); !slices.Equal(list, want) {
		t.Errorf("the list is %v; want %v", list, want)
	}
	if want := []float32{5, -9, 6, 0.25, 77}; !slices.Equal(xs, want) {
		t.Errorf("the readings are %v; want %v", xs, want)
	}
	if want := []int{1, 2, 1, 0}; !slices.Equal(second, want) {
		t.Errorf("the second result is %v; want %v", second, want)
	}
}
