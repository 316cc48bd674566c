package tests

import (
	"math"
	"math/rand/v2"
	"slices"
	"testing"

	"loop.example/g03320/impl"
)

// plainBench has two meters, ten slots, and a record of each meter.
func plainBench() impl.Bench {
	return impl.Bench{
		Meters: []impl.Meter{plainMeter(), {Ranges: oneRange(4), Table: tableOf(-4, -4, 4, 4)}},
		Slots:  []complex128{0, 1, 2, 3, 4, 5, 6, 7, 8, complex(9, -9)},
		Log:    []impl.Record{recordOf(0, 2, 32767, -32767), recordOf(1, 0, -1, 0)},
	}
}

func recordOf(meter int, at int, re int, im int) impl.Record {
	return impl.Record{Meter: meter, At: at, Re: re, Im: im}
}

// benchWith returns a plain bench with one change.
func benchWith(change func(b *impl.Bench)) impl.Bench {
	b := plainBench()
	change(&b)
	return b
}

// sameBench holds benches against each other, with the signs of 0.
func sameBench(a impl.Bench, b impl.Bench) bool {
	return slices.EqualFunc(a.Meters, b.Meters, sameMeter) && slices.EqualFunc(a.Slots, b.Slots, sameWide) && slices.Equal(a.Log, b.Log)
}

// isBench tells what a valid bench is, in other words than the program.
func isBench(b impl.Bench) bool {
	if len(b.Meters) > 6 || len(b.Slots) != 10 || len(b.Log) > 60 {
		return false
	}
	for _, m := range b.Meters {
		if !isMeter(m) {
			return false
		}
	}
	for _, r := range b.Log {
		if uint(r.Meter) >= uint(len(b.Meters)) || !stands(len(b.Meters[r.Meter].Ranges), r.At, r.Re, r.Im) {
			return false
		}
	}
	return !slices.ContainsFunc(b.Slots, func(z complex128) bool { return !finiteWide(z) })
}

// faultyBenches returns benches with one fault alone that makes them invalid.
func faultyBenches() []impl.Bench {
	var out []impl.Bench
	for _, m := range faultyMeters() {
		out = append(out, benchWith(func(b *impl.Bench) { b.Meters = append(b.Meters, m) }))
	}
	out = append(out,
		benchWith(func(b *impl.Bench) { b.Meters[0].Fault = -1 }),
		benchWith(func(b *impl.Bench) { b.Meters, b.Log = slices.Repeat(b.Meters[:1], 7), nil }),
		benchWith(func(b *impl.Bench) { b.Meters = nil }),
		benchWith(func(b *impl.Bench) { b.Meters = b.Meters[:1] }),
	)
	for _, n := range []int{61, 62, 1000} {
		out = append(out, benchWith(func(b *impl.Bench) { b.Log = slices.Repeat(b.Log[:1], n) }))
	}
	for _, n := range []int{0, 1, 9, 11, 12, 20} {
		out = append(out, benchWith(func(b *impl.Bench) { b.Slots = make([]complex128, n) }))
	}
	for _, z := range notFinite() {
		for _, place := range []int{0, 4, 9} {
			out = append(out, benchWith(func(b *impl.Bench) { b.Slots[place] = z }))
		}
	}
	for _, r := range faultyRecords() {
		out = append(out, benchWith(func(b *impl.Bench) { b.Log[0] = r }), benchWith(func(b *impl.Bench) { b.Log[1] = r }), benchWith(func(b *impl.Bench) { b.Log = []impl.Record{r} }))
	}
	return append(out, impl.Bench{})
}

// faultyRecords returns records that the meters of a plain bench have not made.
func faultyRecords() []impl.Record {
	out := []impl.Record{recordOf(1, 1, 0, 0), recordOf(1, 2, 0, 0)}
	for _, n := range []int{-1, -2, 2, 3, 6, math.MinInt, math.MaxInt} {
		out = append(out, recordOf(n, 0, 0, 0))
	}
	for _, n := range noIndexes(threeRanges()) {
		out = append(out, recordOf(0, n, 0, 0))
	}
	for _, n := range noCodes() {
		out = append(out, recordOf(0, 0, n, 0), recordOf(0, 0, 0, n), recordOf(1, 0, n, n))
	}
	return out
}

func TestBenchOkTakesValidBenches(t *testing.T) {
	benches := []impl.Bench{
		plainBench(),
		{Slots: make([]complex128, 10)},
		benchWith(func(b *impl.Bench) { b.Log = nil }),
		benchWith(func(b *impl.Bench) { b.Log = []impl.Record{recordOf(0, 0, 0, 0), recordOf(0, 2, -32767, 32767)} }),
		benchWith(func(b *impl.Bench) {
			b.Slots = slices.Repeat([]complex128{complex(math.MaxFloat64, -math.MaxFloat64)}, 10)
		}),
		benchWith(func(b *impl.Bench) { b.Slots = slices.Repeat(zeros(), 3)[:10] }),
	}
	for n := range 61 {
		benches = append(benches, benchWith(func(b *impl.Bench) { b.Log = slices.Repeat(b.Log, 30)[:n] }))
	}
	for n := 1; n <= 6; n++ {
		benches = append(benches, benchWith(func(b *impl.Bench) {
			b.Meters, b.Log = slices.Repeat(b.Meters[:1], n), []impl.Record{recordOf(n-1, 2, 5, 6)}
		}))
	}
	for _, b := range benches {
		if !impl.BenchOk(b) {
			t.Errorf("%v is not valid", b)
		}
	}
}

func TestBenchOkRejects(t *testing.T) {
	for _, b := range faultyBenches() {
		if impl.BenchOk(b) {
			t.Errorf("%v is valid", b)
		}
	}
}

// someMeter returns a valid meter. Its table tells all that its ranges show, or not; its steps
// fail seldom.
func someMeter(source *rand.Rand) impl.Meter {
	m := impl.Meter{Ranges: threeRanges(), Fault: max(0, source.IntN(6)-2)}
	switch source.IntN(4) {
	case 0:
		m.Ranges = decades(1 + source.IntN(impl.MaxRanges))
	case 1:
		m.Ranges = []impl.Range{{Full: 1, Down: 0.5, Up: 0.75}, {Full: 2, Down: 0.75, Up: 1.5}, {Full: 4, Down: 1, Up: 1.25}, {Full: greatestSingle, Down: 1.25, Up: 1000}}
	}
	m.At = source.IntN(len(m.Ranges))
	m.Re, m.Im = source.IntN(65535)-32767, source.IntN(65535)-32767
	full := min(m.Ranges[len(m.Ranges)-1].Full, greatestSingle/4)
	m.Table = [][]impl.Point{tableOf(-full, 3, full, -4), tableOf(-full, -full, -full/9, minusZero(), 0, full/4, full, full), tableOf(-full/3, 1, full/4, -1), manyTables(1 + source.IntN(4))[0]}[source.IntN(4)]
	for range source.IntN(4) {
		m.Steps = append(m.Steps, randomStep(source))
	}
	return m
}

// someBench returns a valid bench, with any number of meters and of records, often none and nearly
// as many as there may be.
func someBench(source *rand.Rand) impl.Bench {
	var b impl.Bench
	for range source.IntN(7) {
		b.Meters = append(b.Meters, someMeter(source))
	}
	for _, z := range someSlots(source) {
		if !finiteWide(z) {
			z = 1
		}
		b.Slots = append(b.Slots, z)
	}
	records := []int{0, source.IntN(61), 60 - source.IntN(9)}[source.IntN(3)]
	for range records {
		if len(b.Meters) > 0 {
			meter := source.IntN(len(b.Meters))
			b.Log = append(b.Log, recordOf(meter, source.IntN(len(b.Meters[meter].Ranges)), source.IntN(65535)-32767, source.IntN(65535)-32767))
		}
	}
	return b
}

func TestBenchOkOfManyBenches(t *testing.T) {
	source := rand.New(rand.NewPCG(9, 1))
	for range 300 {
		b := someBench(source)
		if !isBench(b) || !impl.BenchOk(b) {
			t.Fatalf("%v is not valid", b)
		}
	}
}

// someReading returns a number about as great as what the meter shows, or of any kind.
func someReading(source *rand.Rand, m impl.Meter) complex64 {
	numbers := readingsFor(m.Ranges)
	part := func() float32 {
		if source.IntN(8) == 0 {
			return numbers[source.IntN(len(numbers))]
		}
		full := m.Ranges[source.IntN(len(m.Ranges))].Full
		return float32(source.Float64()*2-1) * full
	}
	if source.IntN(5) == 0 {
		return complex(part(), 20*part())
	}
	return complex(part(), part())
}

func TestManyMeters(t *testing.T) {
	source := rand.New(rand.NewPCG(9, 2))
	count := map[bool]int{}
	for range 2000 {
		m := someMeter(source)
		for range 10 {
			z := someReading(source, m)
			want, wantOk := shownTold(m, z)
			got, ok := impl.ShowMeter(m, z)
			if !sameMeter(got, want) || ok != wantOk {
				t.Fatalf("ShowMeter(%v, %v) = %v, %v; want %v, %v", m, z, got, ok, want, wantOk)
			}
			value, valueOk := meterTold(got)
			holdsMeterValue(t, got, value, valueOk)
			count[ok]++
			count[valueOk]++
		}
	}
	if count[true] < 1000 || count[false] < 1000 {
		t.Errorf("%v", count)
	}
}

// TestFaultsOfMeters is the last sentence of P9.
func TestFaultsOfMeters(t *testing.T) {
	source := rand.New(rand.NewPCG(9, 3))
	for range 2000 {
		m := someMeter(source)
		z := someReading(source, m)
		shown := [4]impl.Meter{}
		for fault := range shown {
			m.Fault = fault
			got, ok := impl.ShowMeter(m, z)
			if !ok {
				holdsHidden(t, m, z)
				got.Re, got.Im = 0, 0
			}
			shown[fault] = got
			if got.At != shown[0].At || got.Fault != fault {
				t.Fatalf("ShowMeter(%v, %v) = %v", m, z, got)
			}
			if ok && fault == impl.FtStuck && (got.Re != m.Re || got.Im != m.Im) {
				t.Fatalf("stuck: ShowMeter(%v, %v) = %v", m, z, got)
			}
		}
		if shown[2].Re != -shown[0].Re || shown[2].Im != -shown[0].Im || shown[3].Re != 0 || shown[3].Im != 0 {
			t.Fatalf("of %v: %v", z, shown)
		}
	}
}
