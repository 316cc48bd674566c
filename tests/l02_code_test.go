package tests

import (
	"math"
	"testing"

	"loop.example/g03320/impl"
)

// oneRange returns a list of one range with this Full.
func oneRange(full float32) []impl.Range {
	return []impl.Range{{Full: full, Down: 0, Up: full}}
}

func TestOverloadAtItsLimit(t *testing.T) {
	for name, list := range validLists() {
		for at, r := range list {
			for _, x := range readingsFor(list) {
				want := x != x || size(x) > float64(r.Full)
				if got := impl.Overload(list, at, x); got != want {
					t.Errorf("%s: Overload(at %d, %v) = %v", name, at, x, got)
				}
			}
		}
	}
	list := threeRanges()
	cases := []struct {
		at   int
		x    float32
		want bool
	}{
		// It is Full that counts, not Up.
		{1, 8.5, false}, {1, 10, false}, {1, -10, false}, {1, just(10, 1), true}, {1, -just(10, 1), true},
		{0, minusZero(), false}, {2, leastSingle, false}, {2, greatestSingle, true}, {2, infinite(-1), true}, {2, notANumber(), true},
	}
	for _, c := range cases {
		if got := impl.Overload(list, c.at, c.x); got != c.want {
			t.Errorf("Overload(at %d, %v) = %v", c.at, c.x, got)
		}
	}
}

func TestOverloadIsFalseWhereThereIsNoRange(t *testing.T) {
	overloads := []float32{notANumber(), infinite(1), greatestSingle, 0}
	for name, list := range invalidLists() {
		for at := -1; at <= len(list); at++ {
			for _, x := range overloads {
				if impl.Overload(list, at, x) {
					t.Errorf("%s: Overload(at %d, %v) is true", name, at, x)
				}
			}
		}
	}
	list := threeRanges()
	for _, at := range noIndexes(list) {
		for _, x := range overloads {
			if impl.Overload(list, at, x) {
				t.Errorf("Overload(at %d, %v) is true", at, x)
			}
		}
	}
}

func TestBestRangeIsTheFirstThatShows(t *testing.T) {
	list := threeRanges()
	cases := []struct {
		x    float32
		want int
	}{
		{0, 0}, {minusZero(), 0}, {leastSingle, 0}, {1, 0}, {-1, 0}, {just(1, 1), 1}, {-3, 1}, {8.5, 1}, {10, 1}, {-10, 1},
		{just(10, 1), 2}, {-100, 2}, {100, 2}, {just(100, 1), -1}, {-just(100, 1), -1},
		{greatestSingle, -1}, {infinite(1), -1}, {infinite(-1), -1}, {notANumber(), -1},
	}
	for _, c := range cases {
		if got := impl.BestRange(list, c.x); got != c.want {
			t.Errorf("BestRange(%v) = %d; want %d", c.x, got, c.want)
		}
	}
	for name, list := range validLists() {
		for _, x := range readingsFor(list) {
			best := impl.BestRange(list, x)
			for at := range list {
				if shown := !impl.Overload(list, at, x); shown != (best >= 0 && at >= best) {
					t.Errorf("%s: BestRange(%v) = %d, but Overload at %d is %v", name, x, best, at, !shown)
				}
			}
		}
	}
	for name, list := range invalidLists() {
		for _, x := range []float32{0, 1, -2, notANumber(), infinite(1)} {
			if got := impl.BestRange(list, x); got != -1 {
				t.Errorf("%s: BestRange(%v) = %d; want -1", name, x, got)
			}
		}
	}
}

func TestCodeOfIsCutOffTowardZero(t *testing.T) {
	cases := []struct {
		full, x float32
		want    int
	}{
		{10, 5, 16383}, {10, -5, -16383}, {10, 10, 32767}, {10, -10, -32767}, {10, just(10, -1), 32766}, {10, -just(10, -1), -32766},
		{10, 0, 0}, {10, minusZero(), 0}, {10, leastSingle, 0}, {10, -leastSingle, 0}, {10, 0.0003, 0}, {10, -0.0003, 0}, {10, 0.00031, 1}, {10, -0.00031, -1},
		{1, 0.25, 8191}, {1, -0.75, -24575},
		// Here a quotient or a product that is not rounded to a single, or the product taken first, comes to one less.
		{3, 0.3686941, 4027}, {3, -0.3686941, -4027}, {3, 1.0996734, 12011}, {3, 1.8340403, 20032},
		{greatestSingle, greatestSingle, 32767}, {greatestSingle, -greatestSingle, -32767}, {greatestSingle, 1, 0}, {greatestSingle, leastSingle, 0},
		{impl.MinFull, impl.MinFull, 32767}, {impl.MinFull, -impl.MinFull / 2, -16383}, {impl.MinFull, leastSingle, 0},
	}
	for _, c := range cases {
		if got, ok := impl.CodeOf(oneRange(c.full), 0, c.x); got != c.want || !ok {
			t.Errorf("CodeOf(Full %v, %v) = %d, %v; want %d, true", c.full, c.x, got, ok, c.want)
		}
	}
}

// TestCodesOfReadings is what P2 says of codes.
func TestCodesOfReadings(t *testing.T) {
	for name, list := range validLists() {
		for at, r := range list {
			for _, x := range append(readingsFor(list), readingsWithin(r.Full)...) {
				code, ok := impl.CodeOf(list, at, x)
				turned, turnedOk := impl.CodeOf(list, at, -x)
				if ok == impl.Overload(list, at, x) || turnedOk != ok {
					t.Errorf("%s: CodeOf(at %d, %v) = %d, %v", name, at, x, code, ok)
				}
				if turned != -code {
					t.Errorf("%s: at %d the codes of %v and %v are %d and %d", name, at, x, -x, code, turned)
				}
				if !ok {
					if code != 0 {
						t.Errorf("%s: CodeOf(at %d, %v) = %d, false", name, at, x, code)
					}
					continue
				}
				half, halfOk := impl.CodeOf(list, at, x/2)
				if !halfOk || max(half, -half) > max(code, -code) {
					t.Errorf("%s: at %d the codes of %v and its half are %d and %d", name, at, x, code, half)
				}
				value, valueOk := impl.ValueOf(list, at, code)
				if !valueOk || math.Abs(float64(value)-float64(x)) > float64(r.Full)/16000 {
					t.Errorf("%s: at %d the code of %v is %d, which stands for %v", name, at, x, code, value)
				}
			}
		}
	}
}

// readingsWithin returns readings from -full to full.
func readingsWithin(full float32) []float32 {
	var out []float32
	for i := range 401 {
		out = append(out, float32(i-200)/200*full)
	}
	return out
}

func TestCodeOfRejects(t *testing.T) {
	list := threeRanges()
	for _, x := range []float32{just(10, 1), -just(10, 1), greatestSingle, infinite(1), infinite(-1), notANumber()} {
		if got, ok := impl.CodeOf(list, 1, x); got != 0 || ok {
			t.Errorf("CodeOf(at 1, %v) = %d, %v; want 0, false", x, got, ok)
		}
	}
	for _, at := range noIndexes(list) {
		if got, ok := impl.CodeOf(list, at, 0.5); got != 0 || ok {
			t.Errorf("CodeOf(at %d, 0.5) = %d, %v; want 0, false", at, got, ok)
		}
	}
	for name, list := range invalidLists() {
		for at := -1; at <= len(list); at++ {
			if got, ok := impl.CodeOf(list, at, 0.25); got != 0 || ok {
				t.Errorf("%s: CodeOf(at %d, 0.25) = %d, %v; want 0, false", name, at, got, ok)
			}
		}
	}
}

func TestValueOfRoundsTheQuotientFirst(t *testing.T) {
	cases := []struct {
		full float32
		code int
		want float32
	}{
		{10, impl.MaxCode, 10}, {10, -impl.MaxCode, -10}, {10, 0, 0}, {32767, 5, 5}, {32767, -16383, -16383}, {65534, 1, 2}, {10, 32766, 9.999695},
		// Here a quotient that is not rounded to a single, or the product taken first, comes to another number.
		{3, 171, 0.015655994}, {3, -171, -0.015655994}, {7, 75, 0.016022217}, {10, 105, 0.032044433},
		{greatestSingle, impl.MaxCode, greatestSingle}, {greatestSingle, -impl.MaxCode, -greatestSingle},
		{impl.MinFull, impl.MaxCode, impl.MinFull}, {impl.MinFull, -impl.MaxCode, -impl.MinFull},
	}
	for _, c := range cases {
		if got, ok := impl.ValueOf(oneRange(c.full), 0, c.code); !sameBits(got, c.want) || !ok {
			t.Errorf("ValueOf(Full %v, %d) = %v, %v; want %v, true", c.full, c.code, got, ok, c.want)
		}
	}
	list := threeRanges()
	for at, r := range list {
		if got, ok := impl.ValueOf(list, at, impl.MaxCode); got != r.Full || !ok {
			t.Errorf("ValueOf(at %d, MaxCode) = %v, %v; want %v, true", at, got, ok, r.Full)
		}
	}
}

func TestValueOfRejects(t *testing.T) {
	list := threeRanges()
	for _, code := range []int{impl.MaxCode + 1, -impl.MaxCode - 1, 100000, math.MaxInt, math.MinInt} {
		if got, ok := impl.ValueOf(list, 1, code); !sameBits(got, 0) || ok {
			t.Errorf("ValueOf(at 1, %d) = %v, %v; want 0, false", code, got, ok)
		}
	}
	for _, at := range noIndexes(list) {
		if got, ok := impl.ValueOf(list, at, 5); !sameBits(got, 0) || ok {
			t.Errorf("ValueOf(at %d, 5) = %v, %v; want 0, false", at, got, ok)
		}
	}
	for name, list := range invalidLists() {
		for at := -1; at <= len(list); at++ {
			if got, ok := impl.ValueOf(list, at, 5); !sameBits(got, 0) || ok {
				t.Errorf("%s: ValueOf(at %d, 5) = %v, %v; want 0, false", name, at, got, ok)
			}
		}
	}
}
