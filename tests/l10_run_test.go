package tests

import (
	"math"
	"math/rand/v2"
	"slices"
	"strings"
	"testing"

	"loop.example/g03320/impl"
)

// valuesTold is RunValues in other words than the program.
func valuesTold(b impl.Bench, list []impl.Command) []complex64 {
	var out []complex64
	for _, c := range list {
		if len(list) > 60 {
			break
		}
		line := ""
		b, line = applied(b, c)
		if value := b.Slots; len(line) > 4 && line[:4] == "read" {
			out = append(out, complex(narrowed(real(value[c.Slot])), narrowed(imag(value[c.Slot]))))
		}
	}
	return out
}

// holdsValues asks for the values, in each part and sign.
func holdsValues(t *testing.T, b impl.Bench, list []impl.Command, want []complex64) {
	t.Helper()
	if got := impl.RunValues(b, list); !slices.EqualFunc(got, want, sameNarrow) {
		t.Fatalf("RunValues(%v, %v) =\n%v; want\n%v", b, list, got, want)
	}
}

func TestRunValues(t *testing.T) {
	list := []impl.Command{
		readOf(0, 0, 100), readOf(0, 0, 200), calcOf(0, "s0 neg"), checkOf("s0 s0 eq"), readOf(1, 3, complex(-4, 4)), calcOf(3, "s3 s3 add"), faultOf(0, impl.FtStuck), readOf(0, 0, 5), readOf(2, 0, 0), readOf(0, -1, 0), readOf(0, 10, 0),
		faultOf(1, impl.FtTurned), readOf(1, 3, complex(-4, 4)), faultOf(1, impl.FtDead), readOf(1, 3, complex(-4, 4)), calcOf(3, "s0 s9 div s3 div"), checkOf("s0 0 div"), readOf(1, 9, complex(0, 4.5)), faultOf(1, 4), {}, readOf(0, 9, complex(0, notANumber())),
	}
	holdsValues(t, plainBench(), list, []complex64{complex(0, 200), complex(-4, 4), complex(0, 20), complex(4, -4), 0})
	holdsValues(t, plainBench(), nil, nil)
	holdsValues(t, plainBench(), []impl.Command{calcOf(0, "1"), checkOf("1"), faultOf(0, 1), {}}, nil)
	holdsValues(t, impl.Bench{Slots: make([]complex128, 10)}, list, nil)
}

func TestRunValuesOutsideTheTable(t *testing.T) {
	narrow := benchWith(func(b *impl.Bench) { b.Meters[1].Table = tableOf(-1, 5, 4, 7) })
	list := []impl.Command{readOf(1, 4, -4), readOf(1, 4, 4), readOf(1, 4, complex(0, -4)), readOf(1, 5, complex(4, 4))}
	of0, _ := impl.Interpolate(tableOf(-1, 5, 4, 7), 0)
	holdsValues(t, narrow, list, []complex64{complex(7, of0), complex(7, 7)})
}

// TestRunValuesAreThoseBehindEachReading reads twice into one slot, and has others write there.
func TestRunValuesAreThoseBehindEachReading(t *testing.T) {
	list := []impl.Command{readOf(1, 2, 4), readOf(1, 2, -4), calcOf(2, "s2 s2 mul"), readOf(1, 3, 0), readOf(1, 2, complex(0, 4)), calcOf(2, "7"), calcOf(3, "s2")}
	holdsValues(t, plainBench(), list, []complex64{4, -4, 0, complex(0, 4)})
}

// TestRunValuesAreNarrowed has slots hold what no single is near to.
func TestRunValuesAreNarrowed(t *testing.T) {
	minus := math.Copysign(0, -1)
	for _, value := range []complex128{complex(1e300, -1e300), complex(-0x1p128, 0x1p127), complex(0x1.ffffffp127, 0x1.fffffefp127), complex(1e-300, -1e-300), complex(minus, minus), complex(minus, 0), complex(0x1.8p-150, -0x1p-149), complex(1+0x1p-24, 1+0x1.8p-24), complex(0.1, -6)} {
		b := benchWith(func(b *impl.Bench) {
			b.Meters[1].Table = tableOf(-4, minusZero(), 4, minusZero())
			b.Meters[1].Steps = []impl.Step{stepOf(impl.CoAdd, value)}
		})
		want := complex(narrowed(real(value)), narrowed(imag(value)))
		list := []impl.Command{readOf(1, 3, complex(4, 4)), readOf(1, 3, complex(-4, 4))}
		holdsValues(t, b, list, []complex64{want, want})
		// What has become infinite has no number of units, so that the run is not even the same as itself.
		finite := finiteWide(complex128(want))
		if impl.SameRuns(b, b, list, one()) != finite || impl.SameRuns(b, b, list, unitOf("+", impl.MaxMantissa, 104)) != finite {
			t.Errorf("SameRuns of a run with %v and itself is not %v", value, finite)
		}
	}
}

func TestRunValuesOfSomeNumberOfCommands(t *testing.T) {
	reading := slices.Repeat([]impl.Command{readOf(1, 0, 4)}, 1000)
	empty := benchWith(func(b *impl.Bench) { b.Log = nil })
	for n := range 61 {
		holdsValues(t, empty, reading[:n], slices.Repeat([]complex64{4}, n))
		holdsValues(t, plainBench(), reading[:n], slices.Repeat([]complex64{4}, min(n, 58)))
	}
	for _, n := range []int{61, 62, 1000} {
		holdsValues(t, empty, reading[:n], nil)
		if got := impl.RunValues(empty, reading[:n]); got != nil {
			t.Errorf("of %d commands: %v", n, got)
		}
	}
	for _, b := range faultyBenches() {
		for _, n := range []int{0, 1, 60, 61} {
			if got := impl.RunValues(b, reading[:n]); got != nil {
				t.Errorf("RunValues(%v) of %d commands = %v", b, n, got)
			}
		}
	}
}

func TestRunValuesOfManyProcedures(t *testing.T) {
	source := rand.New(rand.NewPCG(10, 11))
	count := 0
	for range 500 {
		b, list := someProcedure(source)
		want := valuesTold(b, list)
		holdsValues(t, b, list, want)
		count += len(want)
		_, lines := impl.RunBench(b, list)
		for _, line := range lines {
			if !strings.HasPrefix(line, "read ") {
				continue
			}
			if got := pairTold(complex128(want[0])); "read "+got != line {
				t.Fatalf("%q stands for %q", got, line)
			}
			want = want[1:]
		}
		if len(want) > 0 {
			t.Fatalf("%d values have no line", len(want))
		}
	}
	if count < 1000 {
		t.Errorf("%d values", count)
	}
}

// holdsSame asks whether two runs are the same, whichever comes first.
func holdsSame(t *testing.T, a impl.Bench, b impl.Bench, list []impl.Command, u impl.Unit, want bool) {
	t.Helper()
	if impl.SameRuns(a, b, list, u) != want || impl.SameRuns(b, a, list, u) != want {
		t.Errorf("SameRuns(%v, %v, %v, %v) is not %v", a, b, list, u, want)
	}
}

func TestSameRuns(t *testing.T) {
	list := []impl.Command{readOf(1, 0, complex(4, -2)), readOf(0, 1, 100), readOf(1, 1, -4)}
	plain := plainBench()
	holdsSame(t, plain, plain, list, half(), true)
	holdsSame(t, plain, plainBench(), list, turnedUnit(half()), true)
	// What a slot holds does not change what is read.
	holdsSame(t, plain, benchWith(slotWith(0, 77)), list, half(), true)
	// Nor do the records, as long as there is room for others.
	holdsSame(t, plain, benchWith(func(b *impl.Bench) { b.Log = nil }), list, half(), true)
	holdsSame(t, plain, benchWith(func(b *impl.Bench) { b.Log = slices.Repeat(b.Log, 29) }), list, half(), false)
	for _, far := range []struct {
		y    float32
		same bool
	}{{4, true}, {4.2, true}, {just(4.25, -1), true}, {4.25, false}, {3.8, true}, {3.75, true}, {just(3.75, -1), false}, {-4, false}} {
		holdsSame(t, plain, benchWith(func(b *impl.Bench) { b.Meters[1].Table[1].Y = far.y }), list[:1], half(), far.same)
	}
	for _, by := range []struct {
		number complex128
		same   bool
	}{{0, true}, {0.2, true}, {complex(0, 0.2), true}, {-0.2, true}, {complex(0, -0.2), true}, {0.3, false}, {complex(0, 0.3), false}, {-0.3, false}, {complex(0.1, -0.3), false}} {
		step := stepOf(impl.CoAdd, by.number)
		holdsSame(t, plain, benchWith(func(b *impl.Bench) { b.Meters[1].Steps = []impl.Step{step} }), list[:1], half(), by.same)
	}
	holdsSame(t, plain, benchWith(func(b *impl.Bench) { b.Meters[0].Steps = []impl.Step{stepOf(impl.CoMul, 1)} }), list, half(), false)
	holdsSame(t, plain, benchWith(func(b *impl.Bench) { b.Meters[1].Fault = impl.FtTurned }), list, half(), false)
	holdsSame(t, plain, benchWith(func(b *impl.Bench) { b.Meters[1].Fault = impl.FtTurned }), list[1:2], half(), true)
	// A reading that one of the benches refuses, or overloads, leaves a run that is shorter.
	holdsSame(t, plain, benchWith(func(b *impl.Bench) { b.Meters = b.Meters[:1]; b.Log = b.Log[:1] }), list, half(), false)
	holdsSame(t, plain, benchWith(func(b *impl.Bench) { b.Meters[1].Ranges = oneRange(3) }), list, half(), false)
	holdsSame(t, plain, benchWith(func(b *impl.Bench) { b.Meters[1].Ranges = oneRange(3) }), append(list[1:2:2], readOf(1, 0, 3.5)), half(), false)
}

// TestSameRunsWithoutValues are alike whatever the benches.
func TestSameRunsWithoutValues(t *testing.T) {
	none := impl.Bench{Slots: make([]complex128, 10)}
	for _, list := range [][]impl.Command{nil, {}, {calcOf(0, "s1"), checkOf("s0"), {}, faultOf(0, 1)}, {readOf(6, 0, 1), readOf(0, 0, 1000)}} {
		holdsSame(t, plainBench(), none, list, half(), true)
		for _, u := range invalidUnits() {
			holdsSame(t, plainBench(), none, list, u, false)
			holdsSame(t, none, none, list, u, false)
		}
		for _, b := range faultyBenches() {
			holdsSame(t, plainBench(), b, list, half(), false)
			holdsSame(t, b, b, list, half(), false)
		}
	}
}

func TestSameRunsOfSomeNumberOfCommands(t *testing.T) {
	reading := slices.Repeat([]impl.Command{readOf(1, 0, 4)}, 1000)
	checking := slices.Repeat([]impl.Command{checkOf("s0")}, 1000)
	empty := benchWith(func(b *impl.Bench) { b.Log = nil })
	for n := range 61 {
		holdsSame(t, empty, empty, reading[:n], half(), true)
		holdsSame(t, empty, plainBench(), reading[:n], half(), n <= 58)
		holdsSame(t, empty, plainBench(), checking[:n], half(), true)
	}
	for _, n := range []int{61, 62, 1000} {
		holdsSame(t, empty, empty, reading[:n], half(), false)
		holdsSame(t, empty, plainBench(), checking[:n], half(), false)
	}
	for _, u := range invalidUnits() {
		holdsSame(t, empty, empty, reading[:3], u, false)
	}
	for _, b := range faultyBenches() {
		holdsSame(t, b, empty, reading[:3], half(), false)
	}
}

// changedBench returns the bench with some meters changed, so that it mostly stays valid.
func changedBench(source *rand.Rand, b impl.Bench) impl.Bench {
	x := ownBench(b)
	for i := range x.Meters {
		m := &x.Meters[i]
		switch source.IntN(12) {
		case 0:
			m.Table[source.IntN(len(m.Table))].Y += 1
		case 1:
			m.Steps = append(m.Steps, stepOf(impl.CoAdd, complex(source.Float64(), 0)))
		case 2:
			m.Fault = source.IntN(4)
		case 3:
			m.Steps = append(m.Steps, stepOf(impl.CoNeg, 0))
		}
	}
	x.Slots[source.IntN(10)] = 3
	if source.IntN(20) == 0 {
		x.Slots[source.IntN(10)] = complex(math.NaN(), 0)
	}
	return x
}

func TestSameRunsOfManyProcedures(t *testing.T) {
	source := rand.New(rand.NewPCG(10, 12))
	count := map[bool]int{}
	for range 600 {
		a, list := someProcedure(source)
		b := changedBench(source, a)
		u := unitOf([]string{"+", "-"}[source.IntN(2)], 1+source.IntN(9), source.IntN(100)-30)
		first, second := valuesTold(a, list), valuesTold(b, list)
		want := isBench(a) && isBench(b) && len(comparedTold(first, second, u)) == 0
		holdsSame(t, a, b, list, u, want)
		count[want && len(first) > 0]++
	}
	if count[true] < 100 || count[false] < 100 {
		t.Errorf("%v", count)
	}
}

// TestARunIsTheSameAsItself exactly if all its values have texts.
func TestARunIsTheSameAsItself(t *testing.T) {
	source := rand.New(rand.NewPCG(10, 13))
	count := map[bool]int{}
	for range 600 {
		b, list := someProcedure(source)
		u := unitOf("-", 1+source.IntN(9), source.IntN(100)-50)
		values := impl.RunValues(b, list)
		_, told := impl.RunText(values, u)
		holdsSame(t, b, b, list, u, told)
		holdsSame(t, b, ownBench(b), list, u, told)
		if len(values) > 0 {
			count[told]++
		}
	}
	if count[true] < 100 || count[false] < 100 {
		t.Errorf("%v", count)
	}
}

// TestRunsAreNotChangedAndResultsAreNew looks at the memory of arguments and results.
func TestRunsAreNotChangedAndResultsAreNew(t *testing.T) {
	source := rand.New(rand.NewPCG(10, 14))
	for range 150 {
		c := roomyCall(someProcedure(source))
		kept := c.kept()
		arguments := c.blocks()
		holdsApart(t, arguments, blockOf(impl.RunValues(c.b, c.list)))
		impl.SameRuns(c.b, c.b, c.list, one())
		if !c.same(kept) {
			t.Fatalf("%v became %v", kept, c)
		}
		a := roomy(closeRun(source, source.IntN(61), one()), 7, 8)
		b := roomy(nearRun(source, a, one()), 9)
		first, second := slices.Clone(a[:cap(a)]), slices.Clone(b[:cap(b)])
		both := slices.Concat(blockOf(a), blockOf(b))
		holdsApart(t, both, blockOf(impl.CompareRuns(a, b, one())))
		texts, _ := impl.RunText(a, one())
		holdsApart(t, both, blockOf(texts))
		if !slices.EqualFunc(a[:cap(a)], first, sameNarrow) || !slices.EqualFunc(b[:cap(b)], second, sameNarrow) {
			t.Fatalf("%v became %v, and %v became %v", first, a, second, b)
		}
	}
}
