package tests

import (
	"math"
	"testing"

	"loop.example/g03320/impl"
)

// told is Interpolate of a valid table at an x inside, reckoned in float64, with each result
// narrowed: a float64 has more than twice the digits, so that this comes to the same as float32.
func told(list []impl.Point, x float32) float32 {
	for _, p := range list {
		if p.X == x {
			return p.Y
		}
	}
	from, to := list[segment(list, x)], list[segment(list, x)+1]
	way := float32(float64(x) - float64(from.X))
	whole := float32(float64(to.X) - float64(from.X))
	part := float32(float64(way) / float64(whole))
	rise := float32(float64(to.Y) - float64(from.Y))
	product := float32(float64(part) * float64(rise))
	return float32(float64(from.Y) + float64(product))
}

// holdsTold checks Interpolate at x against a wanted number, with its sign.
func holdsTold(t *testing.T, list []impl.Point, x float32, want float32) {
	t.Helper()
	if got, ok := impl.Interpolate(list, x); !ok || !sameBits(got, want) {
		t.Errorf("Interpolate(%v, %v) = %v, %v; want %v", list, x, got, ok, want)
	}
}

func TestInterpolateBetweenPoints(t *testing.T) {
	list := tableOf(-4, 8, 0, 0, 2, 10, 4, 30)
	for x, want := range map[float32]float32{-3: 6, -1: 2, -0.5: 1, 0.25: 1.25, 1: 5, 1.5: 7.5, 3: 20, 3.5: 25, 2.125: 11.25} {
		holdsTold(t, list, x, want)
	}
	falling := tableOf(1, 3, 5, -5)
	for x, want := range map[float32]float32{2: 1, 2.5: 0, 3: -1, 4.5: -4} {
		holdsTold(t, falling, x, want)
	}
	level := tableOf(0, 0.1, 0.7, 0.1)
	for _, x := range []float32{leastSingle, 0.3, 0.6999, just(0.7, -1)} {
		holdsTold(t, level, x, 0.1)
	}
}

// TestInterpolateRoundsEachStep has numbers for which each other way comes to something else.
func TestInterpolateRoundsEachStep(t *testing.T) {
	cases := []struct {
		otherWay string
		list     []impl.Point
		x        float32
		want     float32
		other    float32
	}{
		{"all in float64", tableOf(0, -0.9, 0.2, -0.2), 0.1, -0.54999995, -0.55},
		{"t in float64", tableOf(0, -0.9, 0.3, 0.2), 0.2, -0.16666669, -0.16666663},
		{"x less X0 in float64", tableOf(0.1, -0.9, 0.5, -0.5), 0.3, -0.6999999, -0.7},
		{"X1 less X0 in float64", tableOf(0.1, -0.9, 0.4, 0.3), 0.2, -0.49999997, -0.49999994},
		{"d in float64", tableOf(0, -0.9, 0.3, -0.2), 0.1, -0.6666666, -0.6666667},
		{"t times d fused with the sum", tableOf(0, -0.9, 0.3, -0.1), 0.2, -0.36666673, -0.3666667},
		{"the product before the quotient", tableOf(0, -0.8, 0.2, 0.8), 0.1, 0, 5.9604645e-08},
		{"d over X1 less X0 first", tableOf(0, -0.7, 0.2, 0.2), 0.1, -0.25, -0.24999997},
		{"back from the later point", tableOf(0, -0.9, 0.2, -0.1), 0.1, -0.5, -0.49999997},
		{"Y0 and Y1 by their weights", tableOf(0, -0.9, 0.2, 0.2), 0.1, -0.34999996, -0.35},
		{"times the inverse of X1 less X0", tableOf(0, -0.9, 0.3, -0.6), 0.2, -0.70000005, -0.7},
	}
	for _, c := range cases {
		got, ok := impl.Interpolate(c.list, c.x)
		if !ok || !sameBits(got, c.want) {
			t.Errorf("Interpolate(%v, %v) = %v, %v; want %v (%s it is %v)", c.list, c.x, got, ok, c.want, c.otherWay, c.other)
		}
		if c.want == c.other {
			t.Errorf("%s: the numbers do not tell the ways apart", c.otherWay)
		}
	}
}

func TestInterpolateWhereTIsRoundedToOne(t *testing.T) {
	x := just(1, -1)
	greatest := float32(greatestSingle)
	// The result is Y0 + d, which may differ from Y1 beside it.
	holdsTold(t, tableOf(-1, 3, 1, 10), x, 10)
	holdsTold(t, tableOf(-1, 1e8, 1, 0.1), x, 0)
	holdsTold(t, tableOf(-1, 1e8, 1, 0.1), 1, 0.1)
	holdsTold(t, tableOf(-1, -0.1, 1, 1e8), x, 1e8)
	holdsTold(t, tableOf(-1, 5, 1, minusZero()), x, 0)
	// d is rounded up, and Y0 + d is half a step above the greatest single.
	holdsTold(t, tableOf(-1, 0x3p103, 1, greatest), x, infinite(1))
	holdsTold(t, tableOf(-1, -0x3p103, 1, -greatest), x, infinite(-1))
	holdsTold(t, tableOf(-1, 0x3p103, 1, greatest), 1, greatest)
	holdsTold(t, tableOf(-1, 0x3p103, 1, greatest), 0, 0x1p127)
}

func TestInterpolateOfTinyProducts(t *testing.T) {
	zero, least := minusZero(), float32(leastSingle)
	holdsTold(t, tableOf(0, 0, 8, 5*least), 3, 2*least)
	holdsTold(t, tableOf(0, 0, 8, 4*least), 3, 2*least)
	holdsTold(t, tableOf(0, 0, 8, 12*least), 3, 4*least)
	holdsTold(t, tableOf(0, 0, 8, -3*least), 3, -least)
	holdsTold(t, tableOf(0, 0x1p-126, 8, 0), 1, 0x7p-129)
	// p is rounded to 0 or -0.
	holdsTold(t, tableOf(0, 0, 8, least), 3, 0)
	holdsTold(t, tableOf(0, 0, 8, -least), 3, 0)
	holdsTold(t, tableOf(0, zero, 8, least), 3, 0)
	holdsTold(t, tableOf(0, zero, 8, -least), 3, zero)
	holdsTold(t, tableOf(0, zero, 8, least), 5, least)
	holdsTold(t, tableOf(0, least, 1, 2*least), 0.25, least)
	// t is subnormal, or rounded to 0.
	holdsTold(t, tableOf(0, 0, 1, 1), least, least)
	holdsTold(t, tableOf(0, zero, 2, 1), least, 0)
	holdsTold(t, tableOf(0, 0, 2, 1e38), 3*least, 1e38*(2*least))
	holdsTold(t, tableOf(0, 5, 1, 6), 1e-30, 5)
}

func TestInterpolateKeepsTheSignsOfZero(t *testing.T) {
	zero := minusZero()
	list := tableOf(-1, zero, 0, 0, 1, zero, 2, zero, 3, 1, 4, zero)
	for x, want := range map[float32]float32{-1: zero, 0: 0, 1: zero, 2: zero, 4: zero, -0.5: 0, 0.5: 0, 1.5: 0} {
		holdsTold(t, list, x, want)
	}
	holdsTold(t, list, zero, 0)
	// A point at 0 is one at -0, too.
	holdsTold(t, tableOf(0, 7, 1, 8), zero, 7)
	holdsTold(t, tableOf(zero, 7, 1, 8), 0, 7)
	holdsTold(t, tableOf(-1, 5, zero, zero), 0, zero)
	holdsTold(t, tableOf(-1, 5, 0, zero, 1, 5), zero, zero)
}

func TestInterpolateOfManyTables(t *testing.T) {
	tables := manyTables(300)
	for _, list := range validTables() {
		tables = append(tables, list)
	}
	for _, list := range tables {
		for _, x := range numbersFor(list) {
			if segment(list, x) >= 0 {
				holdsTold(t, list, x, told(list, x))
			} else if y, ok := impl.Interpolate(list, x); ok || !sameBits(y, 0) {
				t.Errorf("Interpolate(%v, %v) = %v, %v", list, x, y, ok)
			}
		}
	}
}

// TestTableTellsItsPoints is the first part of P4.
func TestTableTellsItsPoints(t *testing.T) {
	tables := manyTables(300)
	for _, list := range validTables() {
		tables = append(tables, list)
	}
	for _, list := range tables {
		for _, p := range list {
			holdsTold(t, list, p.X, p.Y)
			if p.X == 0 {
				holdsTold(t, list, -p.X, p.Y)
			}
		}
	}
}

// TestTableTellsNothingBeyondALine is the second part of P4. The far end is Y0 + d, rounded, which
// may be infinite, or less than Y1 or greater.
func TestTableTellsNothingBeyondALine(t *testing.T) {
	tables := manyTables(300)
	for _, list := range validTables() {
		tables = append(tables, list)
	}
	for _, list := range tables {
		for _, x := range numbersFor(list) {
			k := segment(list, x)
			if k < 0 || x == list[k].X || x == list[k+1].X {
				continue
			}
			from := list[k].Y
			rise := float32(float64(list[k+1].Y) - float64(from))
			end := float32(float64(from) + float64(rise))
			if got, ok := impl.Interpolate(list, x); !ok || !(got >= min(from, end) && got <= max(from, end)) {
				t.Errorf("Interpolate(%v, %v) = %v, %v, beyond %v and %v", list, x, got, ok, from, end)
			}
		}
	}
}

func TestInterpolateOutside(t *testing.T) {
	for name, list := range validTables() {
		first, last := list[0].X, list[len(list)-1].X
		for _, x := range []float32{just(first, -1), just(last, 1), first - 1e30, last + 1e30, infinite(1), infinite(-1), notANumber(), math.Float32frombits(0xffc00001)} {
			if y, ok := impl.Interpolate(list, x); ok != (x >= first && x <= last) || !ok && !sameBits(y, 0) {
				t.Errorf("%s: Interpolate(%v, %v) = %v, %v", name, list, x, y, ok)
			}
		}
	}
}

func TestInterpolateRejectsInvalidTables(t *testing.T) {
	for name, list := range invalidTables() {
		for _, x := range numbersFor(list) {
			if y, ok := impl.Interpolate(list, x); ok || !sameBits(y, 0) {
				t.Errorf("%s: Interpolate(%v, %v) = %v, %v", name, list, x, y, ok)
			}
		}
	}
}
