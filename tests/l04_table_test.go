package tests

import (
	"cmp"
	"math"
	"math/rand/v2"
	"slices"
	"testing"

	"loop.example/g03320/impl"
)

// tableOf returns the points whose X and Y are the numbers, by turns.
func tableOf(numbers ...float32) []impl.Point {
	var out []impl.Point
	for pair := range slices.Chunk(numbers, 2) {
		out = append(out, impl.Point{X: pair[0], Y: pair[1]})
	}
	return out
}

// waves returns n points, a third apart, whose Y go up and down.
func waves(n int) []impl.Point {
	out := make([]impl.Point, 0, n)
	for i := range n {
		out = append(out, impl.Point{X: float32(i-n/2) / 3, Y: float32(i*i%7-3) / 10})
	}
	return out
}

// samePoints holds tables against each other by the bits of their numbers.
func samePoints(a []impl.Point, b []impl.Point) bool {
	return slices.EqualFunc(a, b, func(p, q impl.Point) bool { return sameBits(p.X, q.X) && sameBits(p.Y, q.Y) })
}

// validTables returns tables with every edge that a valid table may have.
func validTables() map[string][]impl.Point {
	zero, least, greatest := minusZero(), float32(leastSingle), float32(greatestSingle)
	return map[string][]impl.Point{
		"three points":                       tableOf(0, 0, 2, 10, 4, 30),
		"two points":                         tableOf(1, 5, 2, 7),
		"as many as there may be":            waves(impl.MaxPoints),
		"five points":                        waves(5),
		"tenths":                             tableOf(0, -0.9, 0.1, -0.3, 0.3, -0.4, 0.4, 0.2, 0.9, 0.7),
		"X below 0":                          tableOf(-7, 1, -5, 2, -1, 3),
		"X with 0":                           tableOf(-1, 4, 0, 5, 1, 7),
		"X with -0":                          tableOf(-1, 4, zero, 5, 1, 7),
		"X one single apart":                 tableOf(1, 5, just(1, 1), 6, just(just(1, 1), 1), 4),
		"X the least singles":                tableOf(-least, 5, 0, 6, least, 4),
		"X as great as can be":               tableOf(-greatest/2, 0, greatest/2, 1),
		"X up to the greatest":               tableOf(-greatest, 1, 0, 2, greatest, 3),
		"X whose difference is rounded down": tableOf(-just(0x1p103, -1), 0, greatest, 1),
		"Y falls":                            tableOf(0, 9, 1, 4, 2, -3),
		"Y is equal":                         tableOf(0, 0.1, 1, 0.1, 2, 0.1),
		"Y is 0":                             tableOf(0, 0, 1, 0, 2, 0),
		"Y is -0":                            tableOf(0, zero, 1, zero, 2, zero),
		"Y is -0 at the ends":                tableOf(0, zero, 1, 8, 2, zero),
		"Y the least singles":                tableOf(0, zero, 1, -least, 2, least, 3, -least),
		"Y as great as can be":               tableOf(0, -greatest/2, 1, greatest/2, 2, -greatest/2),
		"Y up to the greatest":               tableOf(0, greatest, 1, 0, 2, -greatest),
		"Y whose difference is rounded down": tableOf(0, greatest, 1, -just(0x1p103, -1)),
		"Y that is passed by":                tableOf(-1, 0x3p103, 1, greatest),
		"a great step down":                  tableOf(-1, 1e8, 1, 0.1, 5, 1e8),
	}
}

// invalidTables returns tables that are not valid, nearly all of them with one fault alone.
func invalidTables() map[string][]impl.Point {
	zero, greatest := minusZero(), float32(greatestSingle)
	out := map[string][]impl.Point{
		"nil":                               nil,
		"no point":                          {},
		"one point":                         tableOf(1, 2),
		"one point too many":                waves(impl.MaxPoints + 1),
		"many points too many":              waves(10 * impl.MaxPoints),
		"first X are equal":                 tableOf(1, 5, 1, 6, 2, 7),
		"last X are equal":                  tableOf(1, 5, 2, 6, 2, 7),
		"two points with one X":             tableOf(1, 5, 1, 5),
		"X 0 and -0":                        tableOf(0, 1, zero, 2),
		"X -0 and 0":                        tableOf(-1, 0, zero, 1, 0, 2, 1, 3),
		"first X fall":                      tableOf(2, 5, 1, 6, 3, 7),
		"last X fall":                       tableOf(1, 5, 3, 6, 2, 7),
		"X one single less":                 tableOf(0, 0, 1, 5, just(1, -1), 6, 2, 7),
		"all X fall":                        tableOf(4, 30, 2, 10, 0, 0),
		"all X are infinite":                tableOf(infinite(-1), 1, infinite(1), 2),
		"all Y are infinite":                tableOf(1, infinite(1), 2, infinite(1)),
		"all is NaN":                        tableOf(notANumber(), notANumber(), notANumber(), notANumber()),
		"difference of X is infinite":       tableOf(-greatest, 1, greatest, 2),
		"first difference of X is infinite": tableOf(-greatest, 1, greatest/2, 2, greatest, 3),
		"last difference of X is infinite":  tableOf(-greatest, 1, -greatest/2, 2, greatest, 3),
		"difference of X is rounded up":     tableOf(-0x1p103, 1, greatest, 2),
		"difference of Y is infinite":       tableOf(1, -greatest, 2, greatest),
		"first difference of Y is infinite": tableOf(1, greatest, 2, -greatest, 3, 0, 4, 5),
		"last difference of Y is infinite":  tableOf(1, 0, 2, 5, 3, greatest, 4, -greatest),
		"difference of Y is rounded up":     tableOf(1, greatest, 2, -0x1p103),
	}
	places := map[string]int{"first": 0, "second": 1, "middle": 2, "last": 4}
	numbers := map[string]float32{"NaN": notANumber(), "Inf": infinite(1), "-Inf": infinite(-1)}
	for place, at := range places {
		for number, x := range numbers {
			badX, badY := waves(5), waves(5)
			badX[at].X = x
			badY[at].Y = x
			out[place+" X is "+number] = badX
			out[place+" Y is "+number] = badY
		}
	}
	return out
}

// manyTables returns n valid tables of all lengths: every other one has tenths as its numbers, the
// rest have singles of any exponent.
func manyTables(n int) []([]impl.Point) {
	source := rand.New(rand.NewPCG(4, uint64(n)))
	var out []([]impl.Point)
	for len(out) < n {
		list := make([]impl.Point, 0, impl.MaxPoints)
		for range 2 + source.IntN(impl.MaxPoints-1) {
			p := impl.Point{X: float32(source.IntN(200)-100) / 10, Y: float32(source.IntN(200)-100) / 10}
			if len(out)%2 == 1 {
				p.X, p.Y = math.Float32frombits(source.Uint32()), math.Float32frombits(source.Uint32())
			}
			list = append(list, p)
		}
		slices.SortFunc(list, func(p, q impl.Point) int { return cmp.Compare(p.X, q.X) })
		list = slices.CompactFunc(list, func(p, q impl.Point) bool { return p.X == q.X })
		if isTable(list) {
			out = append(out, list)
		}
	}
	return out
}

// isTable tells what a valid table is, in other words than the program: differences are widened,
// and one that is rounded to an infinite one is at least half a step above the greatest single.
func isTable(list []impl.Point) bool {
	const tooGreat = greatestSingle + 0x1p103
	if len(list) < 2 || len(list) > 32 {
		return false
	}
	for i, p := range list {
		if !(size(p.X) <= greatestSingle && size(p.Y) <= greatestSingle) {
			return false
		}
		if i > 0 && !(float64(p.X) > float64(list[i-1].X)) {
			return false
		}
		if i > 0 && (float64(p.X)-float64(list[i-1].X) >= tooGreat || math.Abs(float64(p.Y)-float64(list[i-1].Y)) >= tooGreat) {
			return false
		}
	}
	return true
}

// numbersFor returns numbers at, beside and between all points of a list, and others.
func numbersFor(list []impl.Point) []float32 {
	out := []float32{0, minusZero(), 0.1, -0.1, leastSingle, -leastSingle, greatestSingle, -greatestSingle, infinite(1), infinite(-1), notANumber()}
	for i, p := range list {
		out = append(out, p.X, just(p.X, 1), just(p.X, -1), -p.X)
		if i > 0 {
			before := float64(list[i-1].X)
			for _, part := range []float64{1e-9, 0.01, 0.1, 1.0 / 3, 0.5, 0.625, 0.9, 0.99999} {
				out = append(out, float32(before+part*(float64(p.X)-before)))
			}
		}
	}
	return out
}

func TestTableOkAcceptsValidTables(t *testing.T) {
	for name, list := range validTables() {
		if !impl.TableOk(list) {
			t.Errorf("%s: %v is not valid", name, list)
		}
	}
	for n := 2; n <= impl.MaxPoints; n++ {
		if !impl.TableOk(waves(n)) {
			t.Errorf("%d points are not valid", n)
		}
	}
	for _, list := range manyTables(500) {
		if !impl.TableOk(list) {
			t.Errorf("%v is not valid", list)
		}
	}
}

func TestTableOkRejectsTablesWithAFault(t *testing.T) {
	for name, list := range invalidTables() {
		if impl.TableOk(list) {
			t.Errorf("%s: %v is valid", name, list)
		}
	}
}

func TestTableOkOfTwoNumbersOfAnyKind(t *testing.T) {
	numbers := []float32{0, 1, 0.1, leastSingle, just(0x1p103, -1), 0x1p103, just(0x1p103, 1), 0x1p127, greatestSingle, just(greatestSingle, -1), infinite(1)}
	for _, x := range slices.Clone(numbers) {
		numbers = append(numbers, -x)
	}
	numbers = append(numbers, notANumber(), minusZero())
	for _, a := range numbers {
		for _, b := range numbers {
			for _, list := range [][]impl.Point{tableOf(a, 1, b, 2), tableOf(1, a, 2, b), tableOf(1, a, 2, 0, 3, b), tableOf(1, 0, 2, a, 3, b)} {
				if got, want := impl.TableOk(list), isTable(list); got != want {
					t.Errorf("TableOk(%v) = %v; want %v", list, got, want)
				}
			}
		}
	}
}

func TestMaxPoints(t *testing.T) {
	if impl.MaxPoints != 32 {
		t.Errorf("MaxPoints is %d", impl.MaxPoints)
	}
}

func TestSegmentOfAtItsLimits(t *testing.T) {
	list := tableOf(-3, 1, 0, 2, 1, 3, 4, 0)
	cases := []struct {
		x    float32
		want int
	}{
		{-3, 0}, {just(-3, 1), 0}, {just(-3, -1), -1}, {-1.5, 0}, {-leastSingle, 0},
		{0, 1}, {minusZero(), 1}, {leastSingle, 1}, {just(1, -1), 1},
		{1, 2}, {just(1, 1), 2}, {3, 2}, {just(4, -1), 2}, {4, 2}, {just(4, 1), -1},
		{100, -1}, {-100, -1}, {greatestSingle, -1}, {-greatestSingle, -1},
		{infinite(1), -1}, {infinite(-1), -1}, {notANumber(), -1},
	}
	for _, c := range cases {
		if got := impl.SegmentOf(list, c.x); got != c.want {
			t.Errorf("SegmentOf(%v) = %d; want %d", c.x, got, c.want)
		}
	}
	two := tableOf(minusZero(), 1, 5, 2)
	for x, want := range map[float32]int{0: 0, 2: 0, 5: 0, just(5, 1): -1, -leastSingle: -1} {
		if got := impl.SegmentOf(two, x); got != want {
			t.Errorf("of two points SegmentOf(%v) = %d; want %d", x, got, want)
		}
	}
}

// segment is SegmentOf of a valid table, read off the document from the last point on.
func segment(list []impl.Point, x float32) int {
	last := len(list) - 1
	if x != x || x < list[0].X || x > list[last].X {
		return -1
	}
	if x == list[last].X {
		return last - 1
	}
	k := last
	for !(list[k].X <= x) {
		k--
	}
	return k
}

func TestSegmentOfManyTables(t *testing.T) {
	for _, list := range manyTables(200) {
		for _, x := range numbersFor(list) {
			if got, want := impl.SegmentOf(list, x), segment(list, x); got != want {
				t.Errorf("SegmentOf(%v, %v) = %d; want %d", list, x, got, want)
			}
		}
	}
}

func TestSegmentOfRejectsInvalidTables(t *testing.T) {
	for name, list := range invalidTables() {
		for _, x := range numbersFor(list) {
			if got := impl.SegmentOf(list, x); got != -1 {
				t.Errorf("%s: SegmentOf(%v) = %d; want -1", name, x, got)
			}
		}
	}
}

func TestTableRises(t *testing.T) {
	greatest := float32(greatestSingle)
	rising := map[string][]impl.Point{
		"two points":         tableOf(1, 5, 2, 7),
		"four points":        tableOf(0, -9, 1, -8.5, 2, 0, 3, 0.1),
		"one single apart":   tableOf(0, just(1, -1), 1, 1, 2, just(1, 1)),
		"around 0":           tableOf(0, -leastSingle, 1, 0, 2, leastSingle),
		"around -0":          tableOf(0, -leastSingle, 1, minusZero(), 2, leastSingle),
		"as great as can be": tableOf(0, -greatest, 1, 0, 2, greatest),
	}
	for name, list := range rising {
		if !impl.TableRises(list) {
			t.Errorf("%s: %v does not rise", name, list)
		}
	}
	other := map[string][]impl.Point{
		"falls":                tableOf(0, 5, 1, 4, 2, 3),
		"falls at first":       tableOf(0, 5, 1, 4, 2, 6, 3, 7),
		"falls in the middle":  tableOf(0, 5, 1, 6, 2, just(6, -1), 3, 7),
		"falls at last":        tableOf(0, 5, 1, 6, 2, 7, 3, 6.5),
		"is equal at first":    tableOf(0, 5, 1, 5, 2, 6),
		"is equal at last":     tableOf(0, 5, 1, 6, 2, 6),
		"has 0 behind -0":      tableOf(0, minusZero(), 1, 0),
		"has -0 behind 0":      tableOf(0, 0, 1, minusZero()),
		"has equal X":          tableOf(0, 1, 0, 2, 1, 3),
		"has an infinite end":  tableOf(0, 1, 1, 2, 2, infinite(1)),
		"starts at -Inf":       tableOf(0, infinite(-1), 1, 2, 2, 3),
		"has a great step":     tableOf(0, -greatest, 1, greatest),
		"has one point":        tableOf(0, 1),
		"has too many points":  make([]impl.Point, impl.MaxPoints+1),
		"has a NaN at its end": tableOf(0, 1, 1, 2, 2, notANumber()),
	}
	for i := range other["has too many points"] {
		other["has too many points"][i] = impl.Point{X: float32(i), Y: float32(i)}
	}
	for name, list := range other {
		if impl.TableRises(list) {
			t.Errorf("%v rises, but it %s", list, name)
		}
	}
	for name, list := range invalidTables() {
		if impl.TableRises(list) {
			t.Errorf("%s: %v rises", name, list)
		}
	}
	if full := other["has too many points"][:impl.MaxPoints]; !impl.TableRises(full) {
		t.Error("MaxPoints points do not rise")
	}
}
