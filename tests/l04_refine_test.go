package tests

import (
	"math/rand/v2"
	"slices"
	"testing"

	"loop.example/g03320/impl"
)

// holdsRefined checks Refine against the wanted points; nil stands for a list that is refused.
func holdsRefined(t *testing.T, list []impl.Point, xs []float32, want []impl.Point) {
	t.Helper()
	got, ok := impl.Refine(list, xs)
	if ok != (want != nil) || !samePoints(got, want) || !ok && got != nil {
		t.Errorf("Refine(%v, %v) = %v, %v; want %v", list, xs, got, ok, want)
	}
}

func TestRefineAddsPoints(t *testing.T) {
	list := tableOf(0, 0, 2, 10, 4, 30)
	zero := minusZero()
	cases := []struct {
		xs   []float32
		want []impl.Point
	}{
		{nil, list},
		{[]float32{}, list},
		{[]float32{1, 3}, tableOf(0, 0, 1, 5, 2, 10, 3, 20, 4, 30)},
		{[]float32{3.5, 3, 1, 0.5}, tableOf(0, 0, 0.5, 2.5, 1, 5, 2, 10, 3, 20, 3.5, 25, 4, 30)},
		{[]float32{1, 3, 0.5, 3.5}, tableOf(0, 0, 0.5, 2.5, 1, 5, 2, 10, 3, 20, 3.5, 25, 4, 30)},
		{[]float32{1, 1, 1}, tableOf(0, 0, 1, 5, 2, 10, 4, 30)},
		{[]float32{3, 1, 3, 1}, tableOf(0, 0, 1, 5, 2, 10, 3, 20, 4, 30)},
		{[]float32{4, 0, 2}, list},
		{[]float32{zero}, list},
		{[]float32{2, 3, 4, 3, zero}, tableOf(0, 0, 2, 10, 3, 20, 4, 30)},
		{[]float32{3 * leastSingle}, tableOf(0, 0, 3*leastSingle, 20*leastSingle, 2, 10, 4, 30)},
		{[]float32{just(4, -1), just(2, 1)}, tableOf(0, 0, 2, 10, just(2, 1), 10.000002, just(4, -1), 29.999998, 4, 30)},
	}
	for _, c := range cases {
		holdsRefined(t, list, c.xs, c.want)
	}
}

func TestRefineTakesZeroOnce(t *testing.T) {
	zero := minusZero()
	list := tableOf(-1, 4, 1, 6)
	holdsRefined(t, list, []float32{0}, tableOf(-1, 4, 0, 5, 1, 6))
	holdsRefined(t, list, []float32{zero}, tableOf(-1, 4, zero, 5, 1, 6))
	holdsRefined(t, list, []float32{0, zero}, tableOf(-1, 4, 0, 5, 1, 6))
	holdsRefined(t, list, []float32{zero, 0}, tableOf(-1, 4, zero, 5, 1, 6))
	holdsRefined(t, list, []float32{zero, 0.5, 0, zero}, tableOf(-1, 4, zero, 5, 0.5, 5.5, 1, 6))
	withZero := tableOf(-1, 4, zero, zero, 1, 6)
	holdsRefined(t, withZero, []float32{0, zero, 0}, withZero)
}

func TestRefineRejects(t *testing.T) {
	list := tableOf(0, 0, 2, 10, 4, 30)
	for _, bad := range []float32{notANumber(), infinite(1), infinite(-1), -leastSingle, -1, just(4, 1), 5, greatestSingle} {
		for _, xs := range [][]float32{{bad}, {1, 3, bad}, {bad, 1, 3}, {1, bad, 3}, {2, bad}, {bad, bad}} {
			holdsRefined(t, list, xs, nil)
		}
	}
	for name, invalid := range invalidTables() {
		for _, xs := range [][]float32{nil, {}, {0}, {0.1, 1}, {1, 1.5, 2}, {notANumber()}} {
			if got, ok := impl.Refine(invalid, xs); ok || got != nil {
				t.Errorf("%s: Refine(%v, %v) = %v, %v", name, invalid, xs, got, ok)
			}
		}
	}
}

// TestRefineRejectsAnInfiniteY has a table that tells an infinite Y, without a point too many.
func TestRefineRejectsAnInfiniteY(t *testing.T) {
	greatest := float32(greatestSingle)
	list := tableOf(-1, 0x3p103, 1, greatest, 2, greatest)
	holdsRefined(t, list, []float32{just(1, -1)}, nil)
	holdsRefined(t, list, []float32{0, just(1, -1), 1}, nil)
	holdsRefined(t, list, []float32{1, 0}, tableOf(-1, 0x3p103, 0, 0x1p127, 1, greatest, 2, greatest))
}

// numbersWithin returns n numbers between the first two points of waves.
func numbersWithin(list []impl.Point, n int) []float32 {
	first, second := float64(list[0].X), float64(list[1].X)
	out := make([]float32, 0, n)
	for i := range n {
		out = append(out, float32(first+(second-first)*float64(i+1)/float64(n+1)))
	}
	return out
}

func TestRefineUpToMaxPoints(t *testing.T) {
	for n := 2; n <= impl.MaxPoints; n++ {
		list := waves(n)
		room := impl.MaxPoints - n
		fit := numbersWithin(list, room)
		got, ok := impl.Refine(list, fit)
		if !ok || len(got) != impl.MaxPoints {
			t.Errorf("%d points and %d more: %v, %v", n, room, got, ok)
		}
		// Numbers that are there already do not count.
		again := slices.Concat(fit, fit, []float32{list[0].X, list[n-1].X})
		holdsRefined(t, list, again, got)
		holdsRefined(t, list, numbersWithin(list, room+1), nil)
		holdsRefined(t, list, numbersWithin(list, room+2), nil)
		holdsRefined(t, list, append(again, just(list[0].X, 1)), nil)
	}
}

func TestRefineOfManyNumbers(t *testing.T) {
	list := tableOf(0, 0, 1, 1)
	numbers := numbersWithin(list, 300000)
	holdsRefined(t, list, numbers, nil)
	holdsRefined(t, list, slices.Repeat([]float32{0.5, 0.25, 1, 0}, 5000), tableOf(0, 0, 0.25, 0.25, 0.5, 0.5, 1, 1))
}

// refined is Refine of a valid table with numbers inside: all points in order, the first one of
// those with one X.
func refined(list []impl.Point, xs []float32) []impl.Point {
	out := slices.Clone(list)
	for _, x := range xs {
		if !slices.ContainsFunc(out, func(p impl.Point) bool { return p.X == x }) {
			out = append(out, impl.Point{X: x, Y: told(list, x)})
		}
	}
	slices.SortFunc(out, func(p, q impl.Point) int {
		if p.X < q.X {
			return -1
		}
		return 1
	})
	if !isTable(out) {
		return nil
	}
	return out
}

// someNumbers returns a few numbers inside of a table, at points, between them and twice.
func someNumbers(source *rand.Rand, list []impl.Point) []float32 {
	all := slices.DeleteFunc(numbersFor(list), func(x float32) bool { return segment(list, x) < 0 })
	out := make([]float32, 0, 40)
	for range source.IntN(40) {
		out = append(out, all[source.IntN(len(all))])
	}
	return out
}

// TestRefinedTableTellsTheSame is the third part of P4. The new points do not play a part in what
// is told for the ones behind them.
func TestRefinedTableTellsTheSame(t *testing.T) {
	source := rand.New(rand.NewPCG(4, 4))
	fine := 0
	for _, list := range manyTables(600) {
		xs := someNumbers(source, list)
		want := refined(list, xs)
		holdsRefined(t, list, xs, want)
		got, ok := impl.Refine(list, xs)
		if !ok {
			continue
		}
		fine++
		for _, p := range list {
			holdsTold(t, got, p.X, p.Y)
		}
		for _, x := range xs {
			holdsTold(t, got, x, told(list, x))
		}
	}
	if fine < 200 {
		t.Errorf("only %d tables were refined", fine)
	}
}

// TestRefineReckonsFromTheOldPoints has numbers for which the new points before them would tell
// something else.
func TestRefineReckonsFromTheOldPoints(t *testing.T) {
	list := tableOf(0, -0.9, 0.9, 0.7)
	xs := []float32{0.1, 0.7, 0.3, 0.5, 0.2}
	got, ok := impl.Refine(list, xs)
	if !ok || len(got) != 7 {
		t.Fatalf("Refine = %v, %v", got, ok)
	}
	grown, differ := slices.Clone(list), 0
	for _, x := range xs {
		if told(grown, x) != told(list, x) {
			differ++
		}
		grown = refined(grown, []float32{x})
		place := slices.IndexFunc(got, func(p impl.Point) bool { return p.X == x })
		if place < 0 || !sameBits(got[place].Y, told(list, x)) {
			t.Errorf("the point at %v in %v is not the one of the old table, %v", x, got, told(list, x))
		}
	}
	if differ == 0 {
		t.Error("the numbers do not tell old points from new ones")
	}
}
