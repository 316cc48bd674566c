package tests

import (
	"slices"
	"testing"

	"loop.example/g03320/impl"
)

func TestLargest(t *testing.T) {
	zero, greatest := minusZero(), float32(greatestSingle)
	cases := []struct {
		list []impl.Point
		want float32
	}{
		{tableOf(0, 0, 2, 10, 4, 30), 30},
		{tableOf(0, 7, 2, 3, 4, -5), 7},
		{tableOf(0, 1, 2, -9, 4, 5), 9},
		{tableOf(0, 1, 2, 9, 4, -10), 10},
		{tableOf(-100, -3, 100, -2), 3},
		{tableOf(0, 5, 2, -5), 5},
		{tableOf(0, 0, 2, 0), 0},
		{tableOf(0, zero, 2, zero), 0},
		{tableOf(0, zero, 2, -leastSingle), leastSingle},
		{tableOf(0, just(1, -1), 1, 1, 2, -just(1, 1)), just(1, 1)},
		{tableOf(0, 0, 1, -greatest), greatest},
	}
	for _, c := range cases {
		if got := impl.Largest(c.list); !sameBits(got, c.want) {
			t.Errorf("Largest(%v) = %v; want %v", c.list, got, c.want)
		}
	}
	for name, list := range invalidTables() {
		if got := impl.Largest(list); !sameBits(got, 0) {
			t.Errorf("%s: Largest(%v) = %v; want 0", name, list, got)
		}
	}
}

func TestScaleTable(t *testing.T) {
	zero, least, greatest := minusZero(), float32(leastSingle), float32(greatestSingle)
	list := tableOf(-1, -5, zero, zero, 1, 0, 2, 0.1)
	level := tableOf(0, 0, 1, zero)
	cases := []struct {
		list   []impl.Point
		factor float32
		want   []impl.Point
	}{
		{list, 1, list},
		{list, 2, tableOf(-1, -10, zero, zero, 1, 0, 2, 0.2)},
		{list, -1, tableOf(-1, 5, zero, 0, 1, zero, 2, -0.1)},
		{list, 0, tableOf(-1, zero, zero, zero, 1, 0, 2, 0)},
		{list, zero, tableOf(-1, 0, zero, 0, 1, zero, 2, zero)},
		// The product of two singles near a tenth is not the single nearest to a hundredth.
		{list, 0.1, tableOf(-1, -0.5, zero, zero, 1, 0, 2, 0.010000001)},
		{list, least, tableOf(-1, -5*least, zero, zero, 1, 0, 2, 0)},
		{list, -least, tableOf(-1, 5*least, zero, 0, 1, zero, 2, zero)},
		{list, infinite(1), nil},
		{list, infinite(-1), nil},
		{list, notANumber(), nil},
		{level, greatest, level},
		{level, -greatest, tableOf(0, zero, 1, 0)},
		{level, infinite(1), nil},
		{level, notANumber(), nil},
		{tableOf(0, 1, 1, 2), greatest / 2, tableOf(0, greatest/2, 1, greatest)},
		// One Y alone becomes infinite.
		{tableOf(0, 1, 1, 2, 2, 1), just(0x1p127, 1), nil},
		{tableOf(0, -2, 1, 0), 0x1p127, nil},
		{tableOf(0, 0, 1, 2), -0x1p127, nil},
		// A difference alone becomes infinite.
		{tableOf(0, -1, 1, 1), greatest, nil},
		{tableOf(0, 0, 1, -1, 2, 1), 0x1p127, nil},
		{tableOf(0, -1, 1, 1), greatest / 2, tableOf(0, -greatest/2, 1, greatest/2)},
	}
	for _, c := range cases {
		got, ok := impl.ScaleTable(c.list, c.factor)
		if ok != (c.want != nil) || !samePoints(got, c.want) || !ok && got != nil {
			t.Errorf("ScaleTable(%v, %v) = %v, %v; want %v", c.list, c.factor, got, ok, c.want)
		}
	}
	for name, list := range invalidTables() {
		for _, factor := range []float32{0, 1, 0.1, -2, notANumber()} {
			if got, ok := impl.ScaleTable(list, factor); ok || got != nil {
				t.Errorf("%s: ScaleTable(%v, %v) = %v, %v", name, list, factor, got, ok)
			}
		}
	}
}

func TestScaleTableOfManyTables(t *testing.T) {
	factors := []float32{0.1, 0.7, -0.3, 3, 1e10, -1e-20, 0x1p-126, greatestSingle}
	for i, list := range manyTables(300) {
		factor := factors[i%len(factors)]
		want := slices.Clone(list)
		for k := range want {
			want[k].Y = float32(float64(want[k].Y) * float64(factor))
		}
		got, ok := impl.ScaleTable(list, factor)
		if fine := isTable(want); ok != fine || fine && !samePoints(got, want) || !fine && got != nil {
			t.Errorf("ScaleTable(%v, %v) = %v, %v; want %v, %v", list, factor, got, ok, want, fine)
		}
	}
}

func TestMirrorTable(t *testing.T) {
	zero, greatest := minusZero(), float32(greatestSingle)
	cases := map[string][2][]impl.Point{
		"three points":   {tableOf(0, 0, 2, 10, 4, 30), tableOf(-4, -30, -2, -10, zero, zero)},
		"signs of 0":     {tableOf(-1, zero, zero, 0, 1, -5), tableOf(-1, 5, 0, zero, 1, 0)},
		"two points":     {tableOf(-3, 1, -2, -7), tableOf(2, 7, 3, -1)},
		"great numbers":  {tableOf(-greatest, greatest, 0, 1), tableOf(zero, -1, greatest, -greatest)},
		"tiny numbers":   {tableOf(leastSingle, -leastSingle, 1, 1), tableOf(-1, -1, -leastSingle, leastSingle)},
		"a table itself": {tableOf(-1, -5, 1, 5), tableOf(-1, -5, 1, 5)},
	}
	for name, c := range cases {
		if got, ok := impl.MirrorTable(c[0]); !ok || !samePoints(got, c[1]) {
			t.Errorf("%s: MirrorTable(%v) = %v, %v; want %v", name, c[0], got, ok, c[1])
		}
	}
	for name, list := range invalidTables() {
		if got, ok := impl.MirrorTable(list); ok || got != nil {
			t.Errorf("%s: MirrorTable(%v) = %v, %v", name, list, got, ok)
		}
	}
}

// TestTwiceMirroredTableIsAsItWas is the last part of P4.
func TestTwiceMirroredTableIsAsItWas(t *testing.T) {
	tables := manyTables(300)
	for _, list := range validTables() {
		tables = append(tables, list)
	}
	for _, list := range tables {
		once, ok := impl.MirrorTable(list)
		if !ok || !impl.TableOk(once) || len(once) != len(list) {
			t.Errorf("MirrorTable(%v) = %v, %v", list, once, ok)
			continue
		}
		for i, p := range list {
			if q := once[len(list)-1-i]; !sameBits(q.X, flipped(p.X)) || !sameBits(q.Y, flipped(p.Y)) {
				t.Errorf("the point %v becomes %v", p, q)
			}
		}
		if twice, ok := impl.MirrorTable(once); !ok || !samePoints(twice, list) {
			t.Errorf("twice mirrored %v is %v, %v", list, twice, ok)
		}
	}
}

// sameList holds lists of singles against each other by their bits.
func sameList(a []float32, b []float32) bool { return slices.EqualFunc(a, b, sameBits) }

func TestResiduals(t *testing.T) {
	list := tableOf(0, 0, 2, 10, 4, 30)
	zero := minusZero()
	cases := []struct {
		readings []impl.Point
		want     []float32
	}{
		{tableOf(1, 7), []float32{2}},
		{tableOf(3, 19, 1, 5, 0, -1, 4, 30, 2, 10.5, 3, 19), []float32{-1, 0, -1, 0, 0.5, -1}},
		{tableOf(zero, 0, 0, zero), []float32{0, zero}},
		{tableOf(1, infinite(1), 1, infinite(-1), 1, notANumber(), 1, 5), []float32{infinite(1), infinite(-1), notANumber(), 0}},
		{tableOf(1, 0x1p24, 1, -0x1p25), []float32{0xfffffbp0, -0x2000004p0}},
		{nil, []float32{}},
		{[]impl.Point{}, []float32{}},
	}
	for _, c := range cases {
		if got, ok := impl.Residuals(list, c.readings); !ok || !sameList(got, c.want) {
			t.Errorf("Residuals of %v = %v, %v; want %v", c.readings, got, ok, c.want)
		}
	}
}

func TestResidualsAreRounded(t *testing.T) {
	zero, greatest := minusZero(), float32(greatestSingle)
	cases := []struct {
		list    []impl.Point
		reading impl.Point
		want    float32
	}{
		// What the table tells is rounded before it is taken away.
		{tableOf(0, -0.9, 0.2, -0.2), impl.Point{X: 0.1, Y: -0.55}, float32(-0.55) - float32(-0.54999995)},
		{tableOf(0, -0.9, 0.3, -0.1), impl.Point{X: 0.2, Y: 1}, 1.3666668},
		{tableOf(0, 1, 1, 3), impl.Point{X: 0.5, Y: 0x1p25}, 0x1p25 - 2},
		{tableOf(0, zero, 1, 5), impl.Point{X: 0, Y: zero}, 0},
		{tableOf(0, 0, 1, 5), impl.Point{X: 0, Y: zero}, zero},
		{tableOf(0, leastSingle, 1, 5), impl.Point{X: 0, Y: 0}, -leastSingle},
		// Numbers that are finite may have a difference that is not.
		{tableOf(0, -greatest, 1, 0), impl.Point{X: 0, Y: greatest}, infinite(1)},
		{tableOf(0, greatest, 1, 0), impl.Point{X: 0, Y: -greatest}, infinite(-1)},
		// The table tells an infinite number.
		{tableOf(-1, 0x3p103, 1, greatest), impl.Point{X: just(1, -1), Y: 5}, infinite(-1)},
		{tableOf(-1, 0x3p103, 1, greatest), impl.Point{X: just(1, -1), Y: infinite(1)}, notANumber()},
	}
	for _, c := range cases {
		if got, ok := impl.Residuals(c.list, []impl.Point{c.reading}); !ok || !sameList(got, []float32{c.want}) {
			t.Errorf("Residuals(%v, %v) = %v, %v; want %v", c.list, c.reading, got, ok, c.want)
		}
	}
	for _, list := range manyTables(200) {
		var readings []impl.Point
		var want []float32
		for _, x := range numbersFor(list) {
			if segment(list, x) >= 0 && len(readings) < impl.MaxReadings {
				p := impl.Point{X: x, Y: list[len(readings)%len(list)].Y + 0.1}
				readings = append(readings, p)
				want = append(want, float32(float64(p.Y)-float64(told(list, x))))
			}
		}
		if got, ok := impl.Residuals(list, readings); !ok || !sameList(got, want) {
			t.Errorf("Residuals(%v, %v) = %v, %v; want %v", list, readings, got, ok, want)
		}
	}
}

func TestResidualsRejects(t *testing.T) {
	list := tableOf(0, 0, 2, 10, 4, 30)
	if got, ok := impl.Residuals(list, make([]impl.Point, impl.MaxReadings)); !ok || len(got) != impl.MaxReadings {
		t.Errorf("of MaxReadings readings there are %d residuals, %v", len(got), ok)
	}
	for _, n := range []int{impl.MaxReadings + 1, impl.MaxReadings + 2, 10 * impl.MaxReadings} {
		if got, ok := impl.Residuals(list, make([]impl.Point, n)); ok || got != nil {
			t.Errorf("%d readings: Residuals = %v, %v", n, got, ok)
		}
	}
	for _, bad := range []float32{-leastSingle, just(4, 1), 100, infinite(1), infinite(-1), notANumber()} {
		for _, readings := range [][]impl.Point{tableOf(bad, 1), tableOf(1, 1, bad, 1), tableOf(bad, 1, 1, 1), tableOf(1, 1, bad, notANumber(), 2, 2)} {
			if got, ok := impl.Residuals(list, readings); ok || got != nil {
				t.Errorf("Residuals of %v = %v, %v", readings, got, ok)
			}
		}
	}
	for name, invalid := range invalidTables() {
		for _, readings := range [][]impl.Point{tableOf(0, 1), tableOf(1, 1, 2, 2), tableOf(0.1, notANumber())} {
			if got, ok := impl.Residuals(invalid, readings); ok || got != nil {
				t.Errorf("%s: Residuals(%v, %v) = %v, %v", name, invalid, readings, got, ok)
			}
		}
	}
}

// TestResidualsOfNoReadings holds that without a reading nothing is asked of the table: the document
// names no condition on it but Interpolate's.
func TestResidualsOfNoReadings(t *testing.T) {
	tables := invalidTables()
	tables["valid"] = waves(5)
	for name, list := range tables {
		if got, ok := impl.Residuals(list, nil); !ok || len(got) != 0 {
			t.Errorf("%s: Residuals(%v, nil) = %v, %v", name, list, got, ok)
		}
	}
}

// TestTablesAreNotChanged looks at the arguments, and at the room behind them, after all calls; and
// at a second result after the first one was written into.
func TestTablesAreNotChanged(t *testing.T) {
	room := tableOf(0, 0, 2, 10, 4, 30, 77, 78, 79, 80)
	wantRoom := slices.Clone(room)
	list := room[:3]
	numbers := []float32{3, 1, 2, 3, 77, 78}
	xs := numbers[:4]
	readings := tableOf(3, 1, 1, 2, 77, 78)
	calls := map[string]func() []impl.Point{
		"Refine":         func() []impl.Point { out, _ := impl.Refine(list, xs); return out },
		"Refine, no xs":  func() []impl.Point { out, _ := impl.Refine(list, nil); return out },
		"Refine, old xs": func() []impl.Point { out, _ := impl.Refine(list, []float32{4, 0}); return out },
		"ScaleTable":     func() []impl.Point { out, _ := impl.ScaleTable(list, 1); return out },
		"MirrorTable":    func() []impl.Point { out, _ := impl.MirrorTable(list); return out },
		"no table":       func() []impl.Point { impl.TableOk(list); impl.TableRises(list); impl.Largest(list); return nil },
		"a number":       func() []impl.Point { impl.SegmentOf(list, 3); impl.Interpolate(list, 3); return nil },
		"Residuals":      func() []impl.Point { impl.Residuals(list, readings[:2]); return nil },
	}
	for name, call := range calls {
		first := call()
		second := call()
		kept := slices.Clone(second)
		for i := range first {
			first[i] = impl.Point{X: 55, Y: 55}
		}
		first = append(first, impl.Point{X: 56, Y: 56})
		if !samePoints(room, wantRoom) || !samePoints(second, kept) {
			t.Errorf("%s: the list is %v, the second result %v", name, room, second)
		}
		if !sameList(numbers, []float32{3, 1, 2, 3, 77, 78}) || !samePoints(readings, tableOf(3, 1, 1, 2, 77, 78)) {
			t.Errorf("%s: the numbers are %v, the readings %v", name, numbers, readings)
		}
	}
}
