package tests

import (
	"math/rand/v2"
	"slices"
	"testing"

	"loop.example/g03320/impl"
)

// replayed is Replay in other words than the program.
func replayed(b impl.Bench, list []impl.Command, log []impl.Record) (impl.Bench, []string, bool) {
	if !isBench(b) || len(list) > 60 {
		return b, nil, false
	}
	x, lines, taken := b, []string{}, 0
	for _, c := range list {
		line := ""
		switch {
		case c.Kind != 1 || isRefusedRead(x, c):
			x, line = applied(x, c)
		case c.Fault == -1:
			line = "overload"
		case taken == len(log) || log[taken].Meter != c.Meter || !stands(len(x.Meters[c.Meter].Ranges), log[taken].At, log[taken].Re, log[taken].Im):
			return b, nil, false
		default:
			shown := x.Meters[c.Meter]
			shown.At, shown.Re, shown.Im = log[taken].At, log[taken].Re, log[taken].Im
			x, line = keptTold(x, c, shown)
			taken++
		}
		lines = append(lines, line)
	}
	if taken < len(log) {
		return b, nil, false
	}
	return x, lines, true
}

// holdsReplay asks for the last bench, the lines, and true.
func holdsReplay(t *testing.T, b impl.Bench, list []impl.Command, log []impl.Record, want impl.Bench, lines []string) {
	t.Helper()
	if got, told, ok := impl.Replay(b, list, log); !sameBench(got, want) || !slices.Equal(told, lines) || !ok {
		t.Fatalf("Replay(%v, %v, %v) =\n%v, %q, %v; want\n%v, %q", b, list, log, got, told, ok, want, lines)
	}
}

// holdsNoReplay asks for the bench unchanged, no line, and false.
func holdsNoReplay(t *testing.T, b impl.Bench, list []impl.Command, log []impl.Record) {
	t.Helper()
	if got, told, ok := impl.Replay(b, list, log); !sameBench(got, b) || told != nil || ok {
		t.Fatalf("Replay(%v, %v, %v) =\n%v, %q, %v", b, list, log, got, told, ok)
	}
}

// overloaded marks a CmRead for a replay.
func overloaded(c impl.Command) impl.Command {
	return commandWith(c, func(c *impl.Command) { c.Fault = -1 })
}

func TestReplayTakesTheRecords(t *testing.T) {
	list := []impl.Command{readOf(1, 0, 0), calcOf(1, "s0 s0 add"), readOf(0, 2, 0), checkOf("s1 s0 eq"), readOf(1, 3, 0), faultOf(1, 2)}
	log := []impl.Record{recordOf(1, 0, 32767, 0), recordOf(0, 1, 0, -32767), recordOf(1, 0, -32767, 32767)}
	want := benchWith(func(b *impl.Bench) {
		b.Meters[0].At, b.Meters[0].Re, b.Meters[0].Im = 1, 0, -32767
		b.Meters[1].Re, b.Meters[1].Im, b.Meters[1].Fault = -32767, 32767, 2
		b.Slots[0], b.Slots[1], b.Slots[2], b.Slots[3] = 4, 8, 20, complex(-4, 4)
		b.Log = append(b.Log, log...)
	})
	lines := []string{"read +1p2 +0", "calc +1p3 +0", "read +5p2 +0", "unlike", "read -1p2 +1p2", "fault 2"}
	holdsReplay(t, plainBench(), list, log, want, lines)
	// The faults of a meter have made the record already: they do not change it again.
	for fault := range 4 {
		with := func(b impl.Bench) impl.Bench {
			b.Meters[0].Fault = fault
			return b
		}
		holdsReplay(t, with(plainBench()), list, log, with(ownBench(want)), lines)
	}
}

func TestReplayLooksAtNoReading(t *testing.T) {
	log := []impl.Record{recordOf(1, 0, 32767, 0)}
	want, lines, ok := impl.Replay(plainBench(), []impl.Command{readOf(1, 0, 4)}, log)
	if !ok || lines[0] != "read +1p2 +0" {
		t.Errorf("a replay gives %q, %v", lines, ok)
	}
	for _, z := range []complex64{0, 1000, complex(0, -1000), complex(notANumber(), 0), complex(0, notANumber()), complex(infinite(1), infinite(-1)), complex(notANumber(), notANumber())} {
		holdsReplay(t, plainBench(), []impl.Command{readOf(1, 0, z)}, log, want, lines)
	}
}

func TestReplayOfOverloads(t *testing.T) {
	b := plainBench()
	marked := overloaded(readOf(1, 0, 4))
	holdsReplay(t, b, []impl.Command{marked}, nil, b, []string{"overload"})
	holdsReplay(t, b, []impl.Command{marked, marked}, []impl.Record{}, b, []string{"overload", "overload"})
	record := recordOf(1, 0, -32767, 0)
	want, _, _ := impl.Replay(b, []impl.Command{readOf(1, 0, 0)}, []impl.Record{record})
	holdsReplay(t, b, []impl.Command{marked, readOf(1, 0, 0), marked}, []impl.Record{record}, want, []string{"overload", "read -1p2 +0", "overload"})
	// A marked one takes no record, which is left then.
	holdsNoReplay(t, b, []impl.Command{marked}, []impl.Record{record})
	// Other faults of a CmRead play no part.
	for _, n := range []int{-2, 1, 2, 3, 4, 1 << 40} {
		other := commandWith(readOf(1, 0, 0), func(c *impl.Command) { c.Fault = n })
		holdsReplay(t, b, []impl.Command{other}, []impl.Record{record}, want, []string{"read -1p2 +0"})
	}
}

// TestReplayRefusesBeforeItLooksForOverloads has -1 in the Fault of commands that are refused, and
// of other kinds.
func TestReplayRefusesBeforeItLooksForOverloads(t *testing.T) {
	b := plainBench()
	full := benchWith(func(b *impl.Bench) { b.Log = slices.Repeat(b.Log, 30) })
	for _, mark := range []int{0, -1} {
		marked := func(c impl.Command) []impl.Command {
			c.Fault = mark
			return []impl.Command{c}
		}
		for _, c := range []impl.Command{readOf(2, 0, 1), readOf(-1, 0, 1), readOf(0, 10, 1), readOf(1, -1, 1)} {
			holdsReplay(t, b, marked(c), nil, b, []string{"error"})
			holdsNoReplay(t, b, marked(c), []impl.Record{recordOf(0, 0, 0, 0)})
		}
		holdsReplay(t, full, marked(readOf(1, 0, 1)), nil, full, []string{"error"})
		holdsNoReplay(t, full, marked(readOf(1, 0, 1)), []impl.Record{recordOf(1, 0, 0, 0)})
		holdsReplay(t, b, marked(calcOf(0, "s1")), nil, benchWith(slotWith(0, 1)), []string{"calc +1p0 +0"})
		holdsReplay(t, b, marked(checkOf("s1")), nil, b, []string{"equal"})
		holdsReplay(t, b, marked(impl.Command{Kind: 5}), nil, b, []string{"error"})
	}
	holdsReplay(t, b, []impl.Command{faultOf(0, -1)}, nil, b, []string{"error"})
}

func TestReplayFailsForRecordsThatDoNotFit(t *testing.T) {
	b := plainBench()
	list := []impl.Command{readOf(0, 0, 0), calcOf(0, "1"), readOf(1, 1, 0)}
	log := []impl.Record{recordOf(0, 2, 1, 2), recordOf(1, 0, 3, 4)}
	if _, lines, ok := impl.Replay(b, list, log); !ok || len(lines) != 3 {
		t.Errorf("a replay gives %q, %v", lines, ok)
	}
	for _, r := range faultyRecords() {
		holdsNoReplay(t, b, list, []impl.Record{r, log[1]})
		holdsNoReplay(t, b, list, []impl.Record{log[0], r})
	}
	// The records of the other meter, with ranges that it has, or has not.
	for _, wrong := range [][]impl.Record{{log[1], log[0]}, {log[0], recordOf(0, 0, 3, 4)}, {recordOf(1, 0, 1, 2), log[1]}, {recordOf(1, 2, 1, 2), log[1]}} {
		holdsNoReplay(t, b, list, wrong)
	}
	for _, r := range []impl.Record{recordOf(0, 2, 32767, -32767), recordOf(0, 0, -32767, 32767)} {
		if _, _, ok := impl.Replay(b, list, []impl.Record{r, log[1]}); !ok {
			t.Errorf("a replay fails for %v", r)
		}
	}
	// Too few, or too many.
	for _, count := range [][]impl.Record{nil, {}, log[:1], log[1:], append(log, log[1]), append(log, log...), slices.Repeat(log, 100)} {
		holdsNoReplay(t, b, list, count)
	}
	holdsNoReplay(t, b, nil, log[:1])
	holdsNoReplay(t, b, []impl.Command{calcOf(0, "1")}, log[:1])
	holdsReplay(t, b, nil, nil, b, nil)
	holdsReplay(t, b, []impl.Command{calcOf(0, "1")}, nil, benchWith(slotWith(0, 1)), []string{"calc +1p0 +0"})
}

func TestReplayOfSomeNumberOfCommands(t *testing.T) {
	b := benchWith(func(b *impl.Bench) { b.Log = nil })
	list, log := slices.Repeat([]impl.Command{readOf(1, 0, 0)}, 62), slices.Repeat([]impl.Record{recordOf(1, 0, 32767, 0)}, 62)
	for n := range 61 {
		x, lines, ok := impl.Replay(b, list[:n], log[:n])
		if !ok || len(lines) != n || !slices.Equal(x.Log, log[:n]) || !impl.BenchOk(x) {
			t.Errorf("%d commands: %d lines, %v", n, len(lines), ok)
		}
	}
	for _, n := range []int{61, 62} {
		holdsNoReplay(t, b, list[:n], log[:60])
		holdsNoReplay(t, b, list[:n], log[:n])
		holdsNoReplay(t, b, slices.Repeat([]impl.Command{calcOf(0, "1")}, n), nil)
	}
}

func TestReplayRejectsInvalidBenches(t *testing.T) {
	for _, b := range faultyBenches() {
		holdsNoReplay(t, b, nil, nil)
		holdsNoReplay(t, b, []impl.Command{calcOf(0, "1")}, nil)
		holdsNoReplay(t, b, []impl.Command{readOf(0, 0, 0)}, []impl.Record{recordOf(0, 0, 0, 0)})
	}
}

// TestAProcedureIsReplayedOverItsRecord is the first sentence of P9.
func TestAProcedureIsReplayedOverItsRecord(t *testing.T) {
	source := rand.New(rand.NewPCG(9, 8))
	overloads, records := 0, 0
	for range 1500 {
		b, list := someProcedure(source)
		x, lines := impl.RunBench(b, list)
		log, marked := impl.NewLog(x, len(b.Log)), impl.MarkOverloads(list, lines)
		holdsReplay(t, b, marked, log, x, lines)
		for i, c := range marked {
			if c.Kind == impl.CmRead && lines[i] == "overload" {
				overloads++
			}
			marked[i].Reading = complex(notANumber(), float32(i))
		}
		holdsReplay(t, b, marked, log, x, lines)
		records += len(log)
	}
	if overloads < 400 || records < 4000 {
		t.Errorf("%d overloads and %d records", overloads, records)
	}
}

// someChange changes the records, or a mark, mostly so that the replay fails.
func someChange(source *rand.Rand, list []impl.Command, log []impl.Record) []impl.Record {
	place, amount := source.IntN(len(log)), []int{-1, 1, 32767, -32767, 7}[source.IntN(5)]
	switch source.IntN(9) {
	case 0:
		log[place].Meter += amount
	case 1, 2:
		log[place].At += amount
	case 3:
		log[place].Re += amount
	case 4:
		log[place].Im += amount
	case 5:
		return slices.Delete(log, place, place+1)
	case 6:
		return slices.Insert(log, place, log[place])
	case 7:
		list[source.IntN(len(list))].Fault = -1
	case 8:
		log[place], log[0] = log[0], log[place]
	}
	return log
}

func TestReplayOfManyChangedRecords(t *testing.T) {
	source := rand.New(rand.NewPCG(9, 9))
	count := map[bool]int{}
	for range 1500 {
		b, list := someProcedure(source)
		x, lines := impl.RunBench(b, list)
		log, marked := impl.NewLog(x, len(b.Log)), impl.MarkOverloads(list, lines)
		if len(log) == 0 {
			continue
		}
		log = someChange(source, marked, log)
		want, told, ok := replayed(b, marked, log)
		if ok {
			holdsReplay(t, b, marked, log, want, told)
		} else {
			holdsNoReplay(t, b, marked, log)
		}
		count[ok]++
	}
	if count[true] < 150 || count[false] < 150 {
		t.Errorf("%v", count)
	}
}

func sameCommand(a impl.Command, b impl.Command) bool {
	return a.Kind == b.Kind && a.Meter == b.Meter && a.Slot == b.Slot && a.Fault == b.Fault && sameNarrow(a.Reading, b.Reading) && sameNodes(a.Expr, b.Expr)
}

func sameCommands(a []impl.Command, b []impl.Command) bool {
	return slices.EqualFunc(a, b, sameCommand)
}

func TestMarkOverloads(t *testing.T) {
	zero := complex(minusZero(), minusZero())
	var list, want []impl.Command
	var lines []string
	for _, kind := range []int{1, 2, 3, 4, 0, 5, -1} {
		for _, line := range []string{"overload", "error", "read +0 +0", "outside", "", "overload ", "Overload"} {
			for _, fault := range []int{-1, 0, 3, 77} {
				c := impl.Command{Kind: kind, Meter: -5, Slot: 50, Reading: []complex64{zero, complex(notANumber(), 1), 5}[len(list)%3], Expr: postfix("s1 add 0.75i")[:len(list)%4], Fault: fault}
				list, lines = append(list, c), append(lines, line)
				c.Reading = 0
				if kind == 1 {
					c.Fault = map[bool]int{true: -1}[line == "overload"]
				}
				want = append(want, c)
			}
		}
	}
	if got := impl.MarkOverloads(list, lines); !sameCommands(got, want) {
		t.Errorf("MarkOverloads gives %v; want %v", got, want)
	}
	for _, n := range []int{0, 1, 10, len(list) - 1} {
		if got := impl.MarkOverloads(list, lines[:n]); got != nil {
			t.Errorf("%d lines less: %v", len(lines)-n, got)
		}
		if got := impl.MarkOverloads(list[:n], lines); got != nil {
			t.Errorf("%d lines more: %v", len(lines)-n, got)
		}
		if got := impl.MarkOverloads(list[:n], lines[:n]); !sameCommands(got, want[:n]) {
			t.Errorf("of %d commands: %v; want %v", n, got, want[:n])
		}
	}
	if got := impl.MarkOverloads(nil, nil); len(got) != 0 {
		t.Errorf("of no command: %v", got)
	}
}
