package tests

import (
	"math"
	"slices"
	"testing"

	"loop.example/g03320/impl"
)

// plainMeter stands at the first of three ranges. It tells twice what it shows, turned by a quarter.
func plainMeter() impl.Meter {
	return impl.Meter{Ranges: threeRanges(), Table: tableOf(-100, -200, 100, 200), Steps: []impl.Step{stepOf(impl.CoMul, complex(0, 1))}, Re: 5, Im: -6}
}

// meterWith returns a plain meter with one change.
func meterWith(change func(m *impl.Meter)) impl.Meter {
	m := plainMeter()
	change(&m)
	return m
}

// meterAt returns a plain meter that stands at a range, with a fault.
func meterAt(at int, fault int) impl.Meter {
	return meterWith(func(m *impl.Meter) { m.At, m.Fault = at, fault })
}

func sameRanges(a []impl.Range, b []impl.Range) bool {
	return slices.EqualFunc(a, b, func(r, s impl.Range) bool {
		return sameBits(r.Full, s.Full) && sameBits(r.Down, s.Down) && sameBits(r.Up, s.Up)
	})
}

// sameMeter holds meters against each other by the bits of their numbers.
func sameMeter(a impl.Meter, b impl.Meter) bool {
	stand := a.At == b.At && a.Fault == b.Fault && a.Re == b.Re && a.Im == b.Im
	return stand && sameRanges(a.Ranges, b.Ranges) && samePoints(a.Table, b.Table) && sameSteps(a.Steps, b.Steps)
}

// stands tells whether a meter of so many ranges may stand so, in other words than the program.
func stands(count int, at int, re int, im int) bool {
	return uint(at) < uint(count) && uint(re+32767) <= 65534 && uint(im+32767) <= 65534
}

// isMeter tells what a valid meter is, in other words than the program.
func isMeter(m impl.Meter) bool {
	for _, s := range m.Steps {
		if !isStep(s) {
			return false
		}
	}
	return len(m.Steps) <= 20 && impl.RangesOk(m.Ranges) && isTable(m.Table) && uint(m.Fault) < 4 && stands(len(m.Ranges), m.At, m.Re, m.Im)
}

// noFaults returns numbers that are no faults.
func noFaults() []int {
	return []int{-1, -2, 4, 5, 256, 1<<32 + 1, math.MinInt, math.MaxInt}
}

// noCodes returns numbers that are no codes.
func noCodes() []int {
	return []int{32768, -32768, 32769, -40000, 1<<32 + 1, math.MinInt, math.MinInt + 1, math.MaxInt}
}

// faultyMeters returns meters with one fault alone that makes them invalid.
func faultyMeters() []impl.Meter {
	var out []impl.Meter
	for _, list := range invalidLists() {
		out = append(out, meterWith(func(m *impl.Meter) { m.Ranges = list }))
	}
	for _, list := range invalidTables() {
		out = append(out, meterWith(func(m *impl.Meter) { m.Table = list }))
	}
	for _, s := range invalidSteps() {
		out = append(out, meterWith(func(m *impl.Meter) { m.Steps = append(m.Steps, s) }))
	}
	out = append(out, meterWith(func(m *impl.Meter) { m.Steps = repeated(stepOf(impl.CoNeg, 0), impl.MaxSteps+1) }))
	for _, at := range noIndexes(threeRanges()) {
		out = append(out, meterAt(at, 0))
	}
	for _, fault := range noFaults() {
		out = append(out, meterAt(0, fault))
	}
	for _, code := range noCodes() {
		out = append(out, meterWith(func(m *impl.Meter) { m.Re = code }), meterWith(func(m *impl.Meter) { m.Im = code }))
	}
	return append(out, impl.Meter{})
}

func TestBenchConstants(t *testing.T) {
	limits := []int{impl.MaxMeters, impl.MaxLog, impl.MaxCommands}
	faults := []int{impl.FtNone, impl.FtStuck, impl.FtTurned, impl.FtDead}
	commands := []int{impl.CmRead, impl.CmCalc, impl.CmCheck, impl.CmFault}
	if !slices.Equal(limits, []int{6, 60, 60}) || !slices.Equal(faults, []int{0, 1, 2, 3}) || !slices.Equal(commands, []int{1, 2, 3, 4}) {
		t.Errorf("the constants are %v, %v and %v", limits, faults, commands)
	}
}

func TestMeterOkTakesValidMeters(t *testing.T) {
	valid := func(m impl.Meter) {
		t.Helper()
		if !impl.MeterOk(m) {
			t.Errorf("%v is not valid", m)
		}
	}
	for _, list := range validLists() {
		for at := range list {
			valid(meterWith(func(m *impl.Meter) { m.Ranges, m.At = list, at }))
		}
	}
	for _, list := range validTables() {
		valid(meterWith(func(m *impl.Meter) { m.Table = list }))
	}
	for _, list := range append(manyChains(100), nil) {
		valid(meterWith(func(m *impl.Meter) { m.Steps = list }))
	}
	for fault := range 4 {
		for at := range 3 {
			valid(meterAt(at, fault))
		}
	}
	for _, code := range []int{0, 1, -1, 100, -5000, 32766, -32766, 32767, -32767} {
		valid(meterWith(func(m *impl.Meter) { m.Re = code }))
		valid(meterWith(func(m *impl.Meter) { m.Im = code }))
		valid(meterWith(func(m *impl.Meter) { m.Re, m.Im = code, -code }))
	}
}

func TestMeterOkRejects(t *testing.T) {
	for _, m := range faultyMeters() {
		if impl.MeterOk(m) {
			t.Errorf("%v is valid", m)
		}
	}
}

// codeTold is the code of a number that a range shows, reckoned of its amount in float64, with
// each result narrowed.
func codeTold(full float32, x float32) int {
	part := narrowed(size(x) / float64(full))
	code := int(narrowed(float64(part) * 32767))
	if x < 0 {
		return -code
	}
	return code
}

// standTold tells where a valid list settles, for a finite amount.
func standTold(list []impl.Range, at int, amount float64) int {
	for at+1 < len(list) && amount > float64(list[at].Up) {
		at++
	}
	for at > 0 && amount < float64(list[at].Down) {
		at--
	}
	return at
}

// shownTold is ShowMeter in other words than the program.
func shownTold(m impl.Meter, z complex64) (impl.Meter, bool) {
	amount := math.Max(size(real(z)), size(imag(z)))
	if !isMeter(m) || !finiteWide(complex128(z)) {
		return m, false
	}
	at := standTold(m.Ranges, m.At, amount)
	full := m.Ranges[at].Full
	if amount > float64(full) {
		return m, false
	}
	m.At = at
	if m.Fault != 1 {
		factor := []int{1, 0, -1, 0}[m.Fault]
		m.Re, m.Im = factor*codeTold(full, real(z)), factor*codeTold(full, imag(z))
	}
	return m, true
}

// holdsShown asks for a meter that shows something.
func holdsShown(t *testing.T, m impl.Meter, z complex64, want impl.Meter) {
	t.Helper()
	if got, ok := impl.ShowMeter(m, z); !sameMeter(got, want) || !ok {
		t.Errorf("at %d, with the fault %d: ShowMeter(%v) = %v, %v; want %v", m.At, m.Fault, z, got, ok, want)
	}
}

// holdsHidden asks for the meter unchanged, and false.
func holdsHidden(t *testing.T, m impl.Meter, z complex64) {
	t.Helper()
	if got, ok := impl.ShowMeter(m, z); !sameMeter(got, m) || ok {
		t.Errorf("ShowMeter(%v, %v) = %v, %v", m, z, got, ok)
	}
}

func TestShowMeterSettlesAndShowsCodes(t *testing.T) {
	minus := minusZero()
	cases := []struct {
		at       int
		z        complex64
		to       int
		re, im   int
		comments string
	}{
		{0, 0, 0, 0, 0, "0"}, {0, complex(minus, minus), 0, 0, 0, "-0"}, {2, 0, 0, 0, 0, "0 settles down over two ranges"}, {2, complex(minus, minus), 0, 0, 0, "so does -0"},
		{0, 1, 0, 32767, 0, "the Full of the first range"}, {0, -1, 0, -32767, 0, "and with the other sign"}, {0, complex(0, 1), 0, 0, 32767, "in the imaginary part"}, {0, complex(0, -1), 0, 0, -32767, "with the other sign there"},
		{0, complex(just(1, 1), 0), 1, 3276, 0, "just above it"}, {0, complex(-0.5, 0.25), 0, -16383, 8191, "half and a quarter"},
		{1, 10, 2, 3276, 0, "the Full of the second range lies above its Up"}, {1, 8, 1, 26213, 0, "its Up"}, {1, complex(0, just(8, 1)), 2, 0, 2621, "just above its Up"}, {1, 0.5, 1, 1638, 0, "its Down"}, {1, complex(just(0.5, -1), 0), 0, 16383, 0, "just below its Down"},
		{2, 100, 2, 32767, 0, "the Full of the last range"}, {2, complex(0, -100), 2, 0, -32767, "and with the other sign"}, {2, complex(just(100, -1), 0), 2, 32766, 0, "just below it"}, {0, complex(100, -100), 2, 32767, -32767, "from the first range to the last one"},
		{2, 0.3, 0, 9830, 0, "from the last range to the first one"}, {2, 7, 1, 22936, 0, "from the last range to the second one"}, {2, 8, 2, 2621, 0, "the Down of the last range"}, {1, 95, 2, 31128, 0, "above the Up of the last range"},
		{0, complex(0.1, 50), 2, 32, 16383, "the imaginary part is the greater one"}, {0, complex(-50, 0.1), 2, -16383, 32, "the real part is"}, {2, complex(0.1, -0.4), 0, 3276, -13106, "down, by the greater one"}, {2, complex(0.1, -0.6), 1, 327, -1966, "down once, by the greater one"}, {2, complex(0.6, -0.1), 1, 1966, -327, "the real part is the greater one"},
		{0, complex(3, 3), 1, 9830, 9830, "alike in amount"}, {0, complex(3, -3), 1, 9830, -9830, "alike with unlike signs"}, {2, complex(-3, 3), 1, -9830, 9830, "alike with unlike signs, down"}, {0, complex(-3, -3), 1, -9830, -9830, "alike and below 0"},
		{1, complex(leastSingle, minus), 0, 0, 0, "the least amount"},
	}
	for _, c := range cases {
		m := meterAt(c.at, impl.FtNone)
		want := m
		want.At, want.Re, want.Im = c.to, c.re, c.im
		holdsShown(t, m, c.z, want)
		if t.Failed() {
			t.Fatal(c.comments)
		}
	}
}

func TestShowMeterWithFaults(t *testing.T) {
	minus := minusZero()
	for _, z := range []complex64{0, complex(minus, 0), complex(0.3, -0.9), complex(5, 0.5), complex(-7, 7), complex(-60, 100), complex(0, -0.001), complex(12, minus)} {
		for at := range 3 {
			sound, _ := impl.ShowMeter(meterAt(at, impl.FtNone), z)
			for fault := range 4 {
				m := meterAt(at, fault)
				want := m
				want.At = sound.At
				switch fault {
				case impl.FtNone:
					want.Re, want.Im = sound.Re, sound.Im
				case impl.FtTurned:
					want.Re, want.Im = -sound.Re, -sound.Im
				case impl.FtDead:
					want.Re, want.Im = 0, 0
				}
				holdsShown(t, m, z, want)
			}
		}
	}
	// The range of a stuck meter settles, although its codes stay.
	stuck := impl.Meter{Ranges: threeRanges(), Table: waves(2), Fault: impl.FtStuck, Re: 32767, Im: -1}
	want := stuck
	want.At = 2
	holdsShown(t, stuck, complex(9, -9), want)
	holdsShown(t, want, 0.1, stuck)
}

// TestShowMeterHidesOverloads asks with each fault: what is overloaded is not looked at further.
func TestShowMeterHidesOverloads(t *testing.T) {
	past := just(100, 1)
	overloaded := append(partsWith(past), append(partsWith(-past), append(partsWith(greatestSingle), partsWith(-150)...)...)...)
	var notFinite []complex64
	for _, x := range []float32{infinite(1), infinite(-1), notANumber()} {
		notFinite = append(notFinite, append(partsWith(x), complex(x, infinite(1)), complex(notANumber(), x))...)
	}
	for fault := range 4 {
		for at := range 3 {
			m := meterAt(at, fault)
			for _, z := range slices.Concat(overloaded, notFinite) {
				holdsHidden(t, m, z)
			}
		}
		single := meterWith(func(m *impl.Meter) { m.Ranges, m.Fault = oneRange(5), fault })
		holdsHidden(t, single, complex(just(5, 1), 0))
		holdsHidden(t, single, complex(0, -6))
		if got, ok := impl.ShowMeter(single, complex(-5, 5)); !ok {
			t.Errorf("with the fault %d the Full of the range shows %v", fault, got)
		}
	}
}

// partsWith returns numbers of which one part, or both, are x.
func partsWith(x float32) []complex64 {
	return []complex64{complex(x, 0), complex(0, x), complex(x, x), complex(x, -1), complex(50, x)}
}

func TestShowMeterRejectsInvalidMeters(t *testing.T) {
	for _, m := range faultyMeters() {
		for _, z := range []complex64{0, complex(0.1, -0.1), complex(notANumber(), 0), 1000} {
			holdsHidden(t, m, z)
		}
	}
}

// meterTold is MeterValue of a valid meter in other words than the program.
func meterTold(m impl.Meter) (complex128, bool) {
	var parts [2]float64
	for i, code := range []int{m.Re, m.Im} {
		shown := narrowed(float64(narrowed(float64(code)/32767)) * float64(m.Ranges[m.At].Full))
		if segment(m.Table, shown) < 0 {
			return 0, false
		}
		parts[i] = float64(told(m.Table, shown))
	}
	z := complex(parts[0], parts[1])
	results := append([]complex128{z}, tracedResults(m.Steps, z)...)
	if !finiteWide(z) || len(results) <= len(m.Steps) {
		return 0, false
	}
	return results[len(m.Steps)], true
}

// holdsMeterValue asks for the value, in each part and sign, or for 0 and false.
func holdsMeterValue(t *testing.T, m impl.Meter, want complex128, wantOk bool) {
	t.Helper()
	if got, ok := impl.MeterValue(m); !sameWide(got, want) || ok != wantOk {
		t.Errorf("MeterValue(%v) = %v, %v; want %v, %v", m, got, ok, want, wantOk)
	}
}

func TestMeterValue(t *testing.T) {
	codes := func(at int, re int, im int) impl.Meter {
		return meterWith(func(m *impl.Meter) { m.At, m.Re, m.Im = at, re, im })
	}
	minus := math.Copysign(0, -1)
	holdsMeterValue(t, codes(2, 32767, 0), complex(0, 200), true)
	holdsMeterValue(t, codes(1, 32767, -32767), complex(20, 20), true)
	holdsMeterValue(t, codes(0, -32767, 0), complex(minus, -2), true)
	holdsMeterValue(t, codes(0, 0, 32767), complex(-2, 0), true)
	holdsMeterValue(t, codes(0, 0, 0), 0, true)
	bare := func(m impl.Meter) impl.Meter {
		m.Steps = nil
		return m
	}
	// All is rounded to singles up to the table's number, which is widened then.
	holdsMeterValue(t, bare(codes(1, 1, -2)), complex(0.0006256103515625, -0.001220703125), true)
	holdsMeterValue(t, bare(codes(2, 12345, -32766)), complex(75.3502197265625, -199.993896484375), true)
	// Every fault tells what the codes stand for.
	for fault := range 4 {
		holdsMeterValue(t, meterWith(func(m *impl.Meter) { m.At, m.Fault, m.Re, m.Im = 2, fault, 0, -32767 }), 200, true)
	}
}

func TestMeterValueAtTheEndsOfTheTable(t *testing.T) {
	with := func(table []impl.Point, re int, im int) impl.Meter {
		return impl.Meter{Ranges: oneRange(2), Table: table, Re: re, Im: im}
	}
	inside, narrow := tableOf(-2, 7, 2, minusZero()), tableOf(-1, 5, 2, 9)
	holdsMeterValue(t, with(inside, 32767, -32767), complex(math.Copysign(0, -1), 7), true)
	holdsMeterValue(t, with(inside, -32767, 32767), complex(7, math.Copysign(0, -1)), true)
	holdsMeterValue(t, with(narrow, 32767, 32767), complex(9, 9), true)
	// One part is outside, below or above, or both are.
	holdsMeterValue(t, with(narrow, -32767, 32767), 0, false)
	holdsMeterValue(t, with(narrow, 32767, -32767), 0, false)
	holdsMeterValue(t, with(narrow, -32767, -20000), 0, false)
	high := tableOf(-3, 1, just(2, -1), 2)
	holdsMeterValue(t, with(high, 32766, 0), complex(float64(told(high, narrowed(float64(narrowed(32766.0/32767))*2))), float64(told(high, 0))), true)
	holdsMeterValue(t, with(high, 32767, 0), 0, false)
	holdsMeterValue(t, with(high, 0, 32767), 0, false)
	// 0 lies outside, too, if the table says so.
	holdsMeterValue(t, with(tableOf(leastSingle, 1, 2, 3), 32767, 0), 0, false)
	holdsMeterValue(t, with(tableOf(-2, 1, -leastSingle, 3), 0, -32767), 0, false)
}

func TestMeterValueWithStepsThatFail(t *testing.T) {
	const greatest = math.MaxFloat64
	with := func(steps ...impl.Step) impl.Meter {
		return impl.Meter{Ranges: oneRange(2), Table: tableOf(-2, -4, 2, 4), Steps: steps, Re: 32767, Im: -32767}
	}
	holdsMeterValue(t, with(), complex(4, -4), true)
	holdsMeterValue(t, with(stepOf(impl.CoMul, greatest)), 0, false)
	holdsMeterValue(t, with(stepOf(impl.CoConj, 0), stepOf(impl.CoMul, greatest/4)), complex(greatest, greatest), true)
	holdsMeterValue(t, with(stepOf(impl.CoMul, greatest/4), stepOf(impl.CoAdd, greatest)), 0, false)
	holdsMeterValue(t, with(stepOf(impl.CoMul, greatest/4), stepOf(impl.CoAdd, complex(0, -greatest)), stepOf(impl.CoMul, 0)), 0, false)
	// A table that tells an infinite number leaves nothing to correct.
	passing := impl.Meter{Ranges: oneRange(just(1, -1)), Table: tableOf(-1, 0x3p103, 1, greatestSingle), Re: 32767}
	holdsMeterValue(t, passing, 0, false)
	passing.Re, passing.Im = 0, 32767
	holdsMeterValue(t, passing, 0, false)
}

func TestMeterValueRejectsInvalidMeters(t *testing.T) {
	for _, m := range faultyMeters() {
		holdsMeterValue(t, m, 0, false)
	}
}
