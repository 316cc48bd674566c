package tests

import (
	"math"
	"math/rand/v2"
	"slices"
	"strings"
	"testing"

	"loop.example/g03320/impl"
)

// ownBench returns a bench in memory of its own.
func ownBench(b impl.Bench) impl.Bench {
	out := impl.Bench{Slots: slices.Clone(b.Slots), Log: slices.Clone(b.Log)}
	for _, m := range b.Meters {
		m.Ranges, m.Table, m.Steps = slices.Clone(m.Ranges), slices.Clone(m.Table), slices.Clone(m.Steps)
		out.Meters = append(out.Meters, m)
	}
	return out
}

// pairTold is the text of a value.
func pairTold(z complex128) string {
	return impl.FormatSingle(narrowed(real(z))) + " " + impl.FormatSingle(narrowed(imag(z)))
}

// isRefusedRead tells whether a valid bench refuses a CmRead.
func isRefusedRead(b impl.Bench, c impl.Command) bool {
	return uint(c.Meter) >= uint(len(b.Meters)) || uint(c.Slot) > 9 || len(b.Log) == 60
}

// keptTold tells what becomes of a bench when one of its meters has shown something.
func keptTold(b impl.Bench, c impl.Command, shown impl.Meter) (impl.Bench, string) {
	x := ownBench(b)
	x.Meters[c.Meter] = shown
	x.Log = append(x.Log, recordOf(c.Meter, shown.At, shown.Re, shown.Im))
	value, ok := meterTold(shown)
	if !ok {
		return x, "outside"
	}
	x.Slots[c.Slot] = value
	return x, "read " + pairTold(value)
}

// applied is Apply in other words than the program.
func applied(b impl.Bench, c impl.Command) (impl.Bench, string) {
	if !isBench(b) {
		return b, "error"
	}
	x := ownBench(b)
	value, ok := impl.EvalExpr(c.Expr, b.Slots)
	switch {
	case c.Kind == 1 && !isRefusedRead(b, c):
		if shown, can := shownTold(b.Meters[c.Meter], c.Reading); can {
			return keptTold(b, c, shown)
		}
		return x, "overload"
	case c.Kind == 3 && ok:
		return x, map[bool]string{true: "equal", false: "unlike"}[real(value) == 1 && imag(value) == 0]
	case c.Kind == 2 && uint(c.Slot) < 10 && ok:
		x.Slots[c.Slot] = value
		return x, "calc " + pairTold(value)
	case c.Kind == 3, c.Kind == 2 && uint(c.Slot) < 10:
		return x, "undefined"
	case c.Kind == 4 && uint(c.Meter) < uint(len(b.Meters)) && uint(c.Fault) < 4:
		x.Meters[c.Meter].Fault = c.Fault
		return x, "fault " + string(rune('0'+c.Fault))
	}
	return x, "error"
}

// holdsApplied asks for the bench, in each number and sign, and for the line.
func holdsApplied(t *testing.T, b impl.Bench, c impl.Command, want impl.Bench, line string) {
	t.Helper()
	if got, told := impl.Apply(b, c); !sameBench(got, want) || told != line {
		t.Fatalf("Apply(%v, %v) =\n%v, %q; want\n%v, %q", b, c, got, told, want, line)
	}
}

// holdsRefused asks for the line "error" and the bench unchanged.
func holdsRefused(t *testing.T, b impl.Bench, c impl.Command) {
	t.Helper()
	holdsApplied(t, b, c, b, "error")
}

func readOf(meter int, slot int, z complex64) impl.Command {
	return impl.Command{Kind: impl.CmRead, Meter: meter, Slot: slot, Reading: z}
}

func calcOf(slot int, words string) impl.Command {
	return impl.Command{Kind: impl.CmCalc, Slot: slot, Expr: postfix(words)}
}

func checkOf(words string) impl.Command {
	return impl.Command{Kind: impl.CmCheck, Expr: postfix(words)}
}

func faultOf(meter int, fault int) impl.Command {
	return impl.Command{Kind: impl.CmFault, Meter: meter, Fault: fault}
}

// commandWith returns a command with one change.
func commandWith(c impl.Command, change func(c *impl.Command)) impl.Command {
	change(&c)
	return c
}

// slotWith is a change of a bench: one slot holds the value.
func slotWith(place int, value complex128) func(b *impl.Bench) {
	return func(b *impl.Bench) { b.Slots[place] = value }
}

func TestReadKeepsTheMeterARecordAndTheValue(t *testing.T) {
	want := benchWith(func(b *impl.Bench) {
		b.Meters[0].At, b.Meters[0].Re, b.Meters[0].Im = 2, 32767, 0
		b.Log = append(b.Log, recordOf(0, 2, 32767, 0))
		b.Slots[0] = complex(0, 200)
	})
	holdsApplied(t, plainBench(), readOf(0, 0, 100), want, "read +0 +25p3")
	last := benchWith(func(b *impl.Bench) {
		b.Meters[1].Re, b.Meters[1].Im = 16383, -32767
		b.Log = append(b.Log, recordOf(1, 0, 16383, -32767))
		b.Slots[9] = complex(float64(told(b.Meters[1].Table, float32(float32(16383)/32767)*4)), -4)
	})
	holdsApplied(t, plainBench(), readOf(1, 9, complex(2, -4)), last, "read "+impl.FormatSingle(float32(real(last.Slots[9])))+" -1p2")
	// A stuck meter has a record of what it shows.
	stuck := benchWith(func(b *impl.Bench) { b.Meters[0].Fault = impl.FtStuck })
	kept, line := impl.Apply(stuck, readOf(0, 3, 50))
	if len(kept.Log) != 3 || kept.Log[2] != recordOf(0, 2, 5, -6) || !strings.HasPrefix(line, "read ") || kept.Meters[0].At != 2 {
		t.Errorf("a stuck meter: %v, %q", kept, line)
	}
}

func TestReadOfAnOverload(t *testing.T) {
	nan := notANumber()
	for fault := range 4 {
		b := benchWith(func(b *impl.Bench) { b.Meters[0].Fault = fault })
		for _, z := range []complex64{101, complex(0, -101), complex(nan, 0), complex(1, nan), complex(infinite(1), 0), complex(0, infinite(-1))} {
			holdsApplied(t, b, readOf(0, 0, z), b, "overload")
		}
	}
}

func TestReadOutsideTheTable(t *testing.T) {
	narrow := benchWith(func(b *impl.Bench) { b.Meters[1].Table = tableOf(-1, 5, 1, 7) })
	for _, z := range []complex64{complex(2, 0), complex(0, 2), complex(-4, -4)} {
		want := ownBench(narrow)
		want.Meters[1].Re, want.Meters[1].Im = codeTold(4, real(z)), codeTold(4, imag(z))
		want.Log = append(want.Log, recordOf(1, 0, want.Meters[1].Re, want.Meters[1].Im))
		holdsApplied(t, narrow, readOf(1, 4, z), want, "outside")
	}
	// So is a value that the steps cannot correct.
	failing := benchWith(func(b *impl.Bench) { b.Meters[1].Steps = []impl.Step{stepOf(impl.CoMul, math.MaxFloat64)} })
	want := ownBench(failing)
	want.Meters[1].Re = 32767
	want.Log = append(want.Log, recordOf(1, 0, 32767, 0))
	holdsApplied(t, failing, readOf(1, 4, 4), want, "outside")
}

func TestReadIsRefused(t *testing.T) {
	b := plainBench()
	for _, z := range []complex64{0, 3, 1000, complex(notANumber(), 0)} {
		for _, n := range []int{-1, -2, 2, 3, 6, math.MinInt, math.MaxInt} {
			holdsRefused(t, b, readOf(n, 0, z))
		}
		for _, n := range []int{-1, -2, 10, 11, math.MinInt, math.MaxInt} {
			holdsRefused(t, b, readOf(0, n, z))
		}
		holdsRefused(t, impl.Bench{Slots: make([]complex128, 10)}, readOf(0, 0, z))
		full := benchWith(func(b *impl.Bench) { b.Log = slices.Repeat(b.Log, 30) })
		holdsRefused(t, full, readOf(0, 0, z))
	}
	// One record less than there may be leaves room for one.
	nearly := benchWith(func(b *impl.Bench) { b.Log = slices.Repeat(b.Log, 30)[:59] })
	x, line := impl.Apply(nearly, readOf(1, 0, 4))
	if len(x.Log) != 60 || line != "read +1p2 +0" || !impl.BenchOk(x) {
		t.Errorf("with 59 records: %d records, %q", len(x.Log), line)
	}
	holdsRefused(t, x, readOf(1, 0, 4))
}

func TestCalc(t *testing.T) {
	minus := math.Copysign(0, -1)
	cases := []struct {
		slot  int
		words string
		value complex128
		line  string
	}{
		{0, "s1 s2 add", 3, "calc +3p0 +0"}, {9, "s9 neg", complex(-9, 9), "calc -9p0 +9p0"}, {4, "s4", 4, "calc +1p2 +0"}, {3, "0.75i", complex(0, 0.75), "calc +0 +3p-2"}, {2, "s9 conj", complex(9, 9), "calc +9p0 +9p0"},
		{7, "0 neg", complex(minus, minus), "calc -0 -0"}, {7, "0 conj", complex(0, minus), "calc +0 -0"}, {1, "s0 s0 eq", 1, "calc +1p0 +0"}, {1, "s0 s1 eq", 0, "calc +0 +0"},
	}
	for _, c := range cases {
		holdsApplied(t, plainBench(), calcOf(c.slot, c.words), benchWith(slotWith(c.slot, c.value)), c.line)
	}
}

// TestTextsOfValues narrows values that no single is near to: the slot keeps the value itself.
func TestTextsOfValues(t *testing.T) {
	minus := math.Copysign(0, -1)
	cases := []struct {
		value complex128
		text  string
	}{
		{complex(1e300, -1e300), "+inf -inf"}, {complex(-0x1p128, 0x1p127), "-inf +1p127"}, {complex(0x1.ffffffp127, 0x1.fffffefp127), "+inf +16777215p104"}, {complex(1e-300, -1e-300), "+0 -0"}, {complex(-math.SmallestNonzeroFloat64, 0x1p-150), "-0 +0"},
		{complex(minus, minus), "-0 -0"}, {complex(0, minus), "+0 -0"}, {complex(0x1.8p-150, -0x1p-149), "+1p-149 -1p-149"}, {complex(1+0x1p-24, 1+0x1.8p-24), "+1p0 +8388609p-23"}, {complex(0.1, -6), "+13421773p-27 -3p1"},
	}
	for _, c := range cases {
		b := benchWith(slotWith(5, c.value))
		want := benchWith(func(b *impl.Bench) { b.Slots[5], b.Slots[0] = c.value, c.value })
		holdsApplied(t, b, calcOf(0, "s5"), want, "calc "+c.text)
		adding := func(b *impl.Bench) {
			b.Meters[1].Table = tableOf(-4, minusZero(), 4, minusZero())
			b.Meters[1].Steps = []impl.Step{stepOf(impl.CoAdd, c.value)}
			b.Meters[1].Re = 32767
		}
		read := benchWith(func(b *impl.Bench) {
			adding(b)
			b.Meters[1].Im, b.Slots[3] = 32767, c.value
			b.Log = append(b.Log, recordOf(1, 0, 32767, 32767))
		})
		holdsApplied(t, benchWith(adding), readOf(1, 3, complex(4, 4)), read, "read "+c.text)
	}
}

// undefinedExpressions returns expressions that have no value with the slots of a plain bench, one
// of which holds the greatest number.
func undefinedExpressions() [][]impl.Node {
	out := [][]impl.Node{nil, {}, postfix("s1 0 div"), postfix("s0 s0 div"), postfix("s8 s8 mul"), postfix("s1 0 div s1 0 div eq"), postfix("s8 2 mul 0 mul"), postfix("s1 s2"), postfix("add"), slices.Repeat(postfix("s1"), 61), append(postfix("s1"), slices.Repeat(postfix("neg"), 60)...)}
	for _, n := range invalidNodes() {
		out = append(out, []impl.Node{n})
	}
	return out
}

func TestUndefinedExpressions(t *testing.T) {
	b := benchWith(slotWith(8, math.MaxFloat64))
	for _, list := range undefinedExpressions() {
		for _, slot := range []int{0, 9} {
			holdsApplied(t, b, impl.Command{Kind: impl.CmCalc, Slot: slot, Expr: list}, b, "undefined")
		}
		holdsApplied(t, b, impl.Command{Kind: impl.CmCheck, Expr: list}, b, "undefined")
		for _, slot := range []int{-1, 10, math.MinInt} {
			holdsRefused(t, b, impl.Command{Kind: impl.CmCalc, Slot: slot, Expr: list})
		}
	}
}

func TestCalcIsRefused(t *testing.T) {
	for _, n := range []int{-1, -2, 10, 11, math.MinInt, math.MaxInt} {
		holdsRefused(t, plainBench(), calcOf(n, "s1"))
	}
}

func TestCheck(t *testing.T) {
	minus := math.Copysign(0, -1)
	b := benchWith(func(b *impl.Bench) {
		b.Slots[5], b.Slots[6], b.Slots[7] = complex(1, minus), complex(math.Nextafter(1, 2), 0), complex(1, math.SmallestNonzeroFloat64)
	})
	cases := map[string]string{
		"1": "equal", "s1": "equal", "s5": "equal", "s1 conj": "equal", "1 neg neg": "equal", "s2 s2 eq": "equal", "s2 s1 s1 add eq": "equal", "1i 1i mul neg": "equal", "s3 s3 div": "equal", "0 0 neg eq": "equal",
		"0": "unlike", "s0": "unlike", "s2": "unlike", "1 neg": "unlike", "1i": "unlike", "s6": "unlike", "s7": "unlike", "s9": "unlike", "s2 s3 eq": "unlike", "s1 1i add": "unlike", "s9 s9 conj eq": "unlike",
	}
	for words, line := range cases {
		holdsApplied(t, b, checkOf(words), b, line)
	}
	holdsApplied(t, impl.Bench{Slots: make([]complex128, 10)}, checkOf("s0 s9 eq"), impl.Bench{Slots: make([]complex128, 10)}, "equal")
}

// TestNothingIsUnlikeItself is a sentence of P9.
func TestNothingIsUnlikeItself(t *testing.T) {
	source := rand.New(rand.NewPCG(9, 4))
	count := map[string]int{}
	for _, e := range manyTrees(60)[:29*60] {
		list := slices.Concat(e.list(), e.list(), postfix("eq"))
		_, line := impl.Apply(someBench(source), impl.Command{Kind: impl.CmCheck, Expr: list})
		count[line]++
	}
	if count["equal"] < 100 || count["undefined"] < 100 || len(count) != 2 {
		t.Errorf("%v", count)
	}
}

func TestFaultCommands(t *testing.T) {
	for before := range 4 {
		for after := range 4 {
			for meter := range 2 {
				b := benchWith(func(b *impl.Bench) { b.Meters[meter].Fault = before })
				want := benchWith(func(b *impl.Bench) { b.Meters[meter].Fault = after })
				holdsApplied(t, b, faultOf(meter, after), want, []string{"fault 0", "fault 1", "fault 2", "fault 3"}[after])
			}
		}
	}
	for _, n := range noFaults() {
		holdsRefused(t, plainBench(), faultOf(0, n))
	}
	for _, n := range []int{-1, -2, 2, 3, 6, math.MinInt, math.MaxInt} {
		holdsRefused(t, plainBench(), faultOf(n, 1))
	}
	holdsRefused(t, impl.Bench{Slots: make([]complex128, 10)}, faultOf(0, 1))
}

func TestOtherKindsAreRefused(t *testing.T) {
	for _, kind := range []int{0, 5, 6, -1, -2, -4, 256 + impl.CmRead, 1<<32 + impl.CmCalc, math.MinInt, math.MaxInt} {
		for _, c := range []impl.Command{readOf(0, 0, 1), calcOf(0, "s1"), checkOf("1"), faultOf(0, 1), {}} {
			holdsRefused(t, plainBench(), commandWith(c, func(c *impl.Command) { c.Kind = kind }))
		}
	}
}

// TestFieldsOfOtherKindsPlayNoPart fills them with what would be refused elsewhere.
func TestFieldsOfOtherKindsPlayNoPart(t *testing.T) {
	nan := complex(notANumber(), infinite(1))
	full := benchWith(func(b *impl.Bench) { b.Log = slices.Repeat(b.Log, 30) })
	for _, n := range []int{-1, 10, 99, math.MinInt, math.MaxInt} {
		for _, expr := range undefinedExpressions()[:4] {
			read := commandWith(readOf(0, 0, 100), func(c *impl.Command) { c.Expr, c.Fault = expr, n })
			want, line := impl.Apply(plainBench(), readOf(0, 0, 100))
			holdsApplied(t, plainBench(), read, want, line)
			fault := commandWith(faultOf(1, 3), func(c *impl.Command) { c.Expr, c.Slot, c.Reading = expr, n, nan })
			want, line = impl.Apply(full, faultOf(1, 3))
			holdsApplied(t, full, fault, want, line)
		}
		calc := commandWith(calcOf(9, "s9 s1 add"), func(c *impl.Command) { c.Meter, c.Fault, c.Reading = n, n, nan })
		want, line := impl.Apply(full, calcOf(9, "s9 s1 add"))
		holdsApplied(t, full, calc, want, line)
		check := commandWith(checkOf("s1"), func(c *impl.Command) { c.Meter, c.Slot, c.Fault, c.Reading = n, n, n, nan })
		holdsApplied(t, full, check, full, "equal")
	}
}

func TestApplyRejectsInvalidBenches(t *testing.T) {
	for _, b := range faultyBenches() {
		for _, c := range []impl.Command{readOf(0, 0, 1), readOf(0, 0, 1000), calcOf(0, "1"), checkOf("1"), checkOf("add"), faultOf(0, 1), {}} {
			holdsRefused(t, b, c)
		}
	}
}

// someCommand returns a command of any kind, about meters and slots that there mostly are.
func someCommand(source *rand.Rand, b impl.Bench) impl.Command {
	c := impl.Command{Kind: []int{1, 1, 1, 1, 2, 2, 3, 3, 4, 4, 0, 5}[source.IntN(12)], Meter: source.IntN(len(b.Meters) + 1), Slot: source.IntN(10), Fault: source.IntN(4), Reading: complex(float32(source.IntN(9)), 2)}
	if c.Meter < len(b.Meters) {
		c.Reading = someReading(source, b.Meters[c.Meter])
	}
	c.Expr = someTree(source, 1+source.IntN(7)).list()
	switch source.IntN(12) {
	case 0:
		c.Meter = -1
	case 1:
		c.Slot = 11*source.IntN(2) - 1
	case 2:
		c.Fault = 5*source.IntN(2) - 1
	case 3:
		c.Expr = c.Expr[:source.IntN(len(c.Expr))]
	case 4, 5:
		c.Expr = slices.Concat(c.Expr, c.Expr, postfix("eq"))
	}
	return c
}

func TestApplyOfManyCommands(t *testing.T) {
	source := rand.New(rand.NewPCG(9, 5))
	for range 3000 {
		b := someBench(source)
		for range 4 {
			c := someCommand(source, b)
			want, line := applied(b, c)
			holdsApplied(t, b, c, want, line)
			if line == "error" && !sameBench(want, b) {
				t.Fatalf("%v, refused, made %v of %v", c, want, b)
			}
		}
	}
}
