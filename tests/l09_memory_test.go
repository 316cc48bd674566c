package tests

import (
	"cmp"
	"math/rand/v2"
	"slices"
	"testing"
	"unsafe"

	"loop.example/g03320/impl"
)

// block is the memory of a slice, with the room behind it: the addresses from start on, up to end.
type block struct{ start, end uintptr }

// blockOf returns the block of a slice, if it has any memory.
func blockOf[E any](list []E) []block {
	start := uintptr(unsafe.Pointer(unsafe.SliceData(list)))
	if cap(list) == 0 {
		return nil
	}
	return []block{{start, start + uintptr(cap(list))*unsafe.Sizeof(list[:1][0])}}
}

func blocksOfMeter(m impl.Meter) []block {
	return slices.Concat(blockOf(m.Ranges), blockOf(m.Table), blockOf(m.Steps))
}

func blocksOfBench(b impl.Bench) []block {
	out := slices.Concat(blockOf(b.Meters), blockOf(b.Slots), blockOf(b.Log))
	for _, m := range b.Meters {
		out = append(out, blocksOfMeter(m)...)
	}
	return out
}

func blocksOfCommands(list []impl.Command) []block {
	out := blockOf(list)
	for _, c := range list {
		out = append(out, blockOf(c.Expr)...)
	}
	return out
}

// holdsApart asks that no block of the results is one of an argument, or of another result.
func holdsApart(t *testing.T, arguments []block, results []block) {
	t.Helper()
	byStart := func(a block, b block) int { return cmp.Compare(a.start, b.start) }
	// Arguments may share memory with each other: blocks of theirs are seen as one.
	var all []block
	for _, b := range slices.SortedFunc(slices.Values(arguments), byStart) {
		if last := len(all) - 1; last >= 0 && all[last].end > b.start {
			all[last].end = max(all[last].end, b.end)
			continue
		}
		all = append(all, b)
	}
	all = append(all, results...)
	slices.SortFunc(all, byStart)
	for i := 1; i < len(all); i++ {
		if all[i-1].end > all[i].start {
			t.Fatal("two slices share memory")
		}
	}
}

// roomy returns the list with room behind it, in which others stand.
func roomy[E any](list []E, others ...E) []E {
	return append(slices.Clone(list), others...)[:len(list)]
}

// roomyBench returns a bench with room behind each slice.
func roomyBench(b impl.Bench) impl.Bench {
	out := impl.Bench{Slots: roomy(b.Slots, 77, 78), Log: roomy(b.Log, recordOf(7, 7, 7, 7), recordOf(8, 8, 8, 8))}
	for _, m := range b.Meters {
		m.Ranges, m.Table, m.Steps = roomy(m.Ranges, oneRange(9)...), roomy(m.Table, tableOf(7, 8)...), roomy(m.Steps, stepOf(8, 8))
		out.Meters = append(out.Meters, m)
	}
	out.Meters = roomy(out.Meters, impl.Meter{At: 8}, impl.Meter{At: 9})
	return out
}

// toTheEnd returns a bench with all that stands in the room of its slices, in memory of its own.
func toTheEnd(b impl.Bench) impl.Bench {
	out := impl.Bench{Slots: slices.Clone(b.Slots[:cap(b.Slots)]), Log: slices.Clone(b.Log[:cap(b.Log)])}
	for _, m := range b.Meters[:cap(b.Meters)] {
		m.Ranges, m.Table, m.Steps = slices.Clone(m.Ranges[:cap(m.Ranges)]), slices.Clone(m.Table[:cap(m.Table)]), slices.Clone(m.Steps[:cap(m.Steps)])
		out.Meters = append(out.Meters, m)
	}
	return out
}

// ownCommands returns commands in memory of their own.
func ownCommands(list []impl.Command) []impl.Command {
	out := slices.Clone(list)
	for i := range out {
		out[i].Expr = slices.Clone(out[i].Expr)
	}
	return out
}

// call is the arguments of the functions of the chapter, with room behind each slice.
type call struct {
	b     impl.Bench
	list  []impl.Command
	lines []string
	log   []impl.Record
}

// roomyCall returns the arguments of a run, be there one or not, and of its replay.
func roomyCall(b impl.Bench, list []impl.Command) call {
	x, lines := impl.RunBench(b, list)
	if lines == nil {
		lines = make([]string, len(list))
	}
	c := call{b: roomyBench(b), lines: roomy(lines, "x", "y"), log: roomy(impl.NewLog(x, min(len(b.Log), len(x.Log))), recordOf(5, 5, 5, 5))}
	for _, command := range impl.MarkOverloads(list, lines) {
		command.Expr = roomy(command.Expr, postfix("s9 neg")...)
		c.list = append(c.list, command)
	}
	c.list = roomy(c.list, readOf(7, 7, 7), calcOf(0, "s8"))
	return c
}

func (c call) blocks() []block {
	return slices.Concat(blocksOfBench(c.b), blocksOfCommands(c.list), blockOf(c.lines), blockOf(c.log))
}

// same reports whether the arguments, with the room behind them, are as in the kept ones.
func (c call) same(kept call) bool {
	return sameBench(toTheEnd(c.b), kept.b) && sameCommands(c.list[:cap(c.list)], kept.list) && slices.Equal(c.lines[:cap(c.lines)], kept.lines) && slices.Equal(c.log[:cap(c.log)], kept.log)
}

// kept returns what stands in the arguments, and in the room behind them.
func (c call) kept() call {
	return call{b: toTheEnd(c.b), list: ownCommands(c.list[:cap(c.list)]), lines: slices.Clone(c.lines[:cap(c.lines)]), log: slices.Clone(c.log[:cap(c.log)])}
}

// looksAtEachResult calls each function that returns slices.
func (c call) looksAtEachResult(t *testing.T) {
	t.Helper()
	arguments := c.blocks()
	for _, m := range c.b.Meters {
		for _, z := range []complex64{0, complex(0.3, -0.2), 1e30, complex(notANumber(), 0)} {
			shown, _ := impl.ShowMeter(m, z)
			holdsApart(t, arguments, blocksOfMeter(shown))
		}
		impl.MeterOk(m)
		impl.MeterValue(m)
	}
	impl.BenchOk(c.b)
	for _, command := range c.list {
		after, _ := impl.Apply(c.b, command)
		holdsApart(t, arguments, blocksOfBench(after))
	}
	ran, lines := impl.RunBench(c.b, c.list)
	holdsApart(t, arguments, slices.Concat(blocksOfBench(ran), blockOf(lines)))
	for _, log := range [][]impl.Record{c.log, nil} {
		again, told, _ := impl.Replay(c.b, c.list, log)
		holdsApart(t, arguments, slices.Concat(blocksOfBench(again), blockOf(told)))
	}
	holdsApart(t, arguments, blocksOfCommands(impl.MarkOverloads(c.list, c.lines)))
	for _, before := range []int{0, len(c.b.Log) / 2, len(c.b.Log)} {
		holdsApart(t, arguments, blockOf(impl.NewLog(c.b, before)))
	}
}

func TestBenchesAreNotChangedAndResultsAreNew(t *testing.T) {
	source := rand.New(rand.NewPCG(9, 10))
	var calls []call
	for range 150 {
		calls = append(calls, roomyCall(someProcedure(source)))
	}
	long := slices.Repeat([]impl.Command{readOf(0, 0, 1), calcOf(0, "s1 neg"), faultOf(1, 1)}, 30)
	calls = append(calls, roomyCall(plainBench(), long[:60]), roomyCall(plainBench(), long), roomyCall(impl.Bench{Slots: make([]complex128, 10)}, long[:9]))
	for i, b := range faultyBenches() {
		if i%5 == 0 {
			calls = append(calls, roomyCall(b, long[:2+i%3]))
		}
	}
	for _, c := range calls {
		kept := c.kept()
		c.looksAtEachResult(t)
		if !c.same(kept) {
			t.Fatalf("%v became %v", kept, c)
		}
	}
}

// TestMetersThatShareMemory come back with memory of their own.
func TestMetersThatShareMemory(t *testing.T) {
	b := benchWith(func(b *impl.Bench) { b.Meters = slices.Repeat(b.Meters[:1], 6) })
	b.Log = b.Log[:1]
	arguments := blocksOfBench(b)
	for _, c := range []impl.Command{readOf(0, 0, 1), readOf(0, 0, 1000), faultOf(5, 3), {}} {
		after, _ := impl.Apply(b, c)
		holdsApart(t, arguments, blocksOfBench(after))
		ran, _ := impl.RunBench(b, []impl.Command{c, c})
		holdsApart(t, arguments, blocksOfBench(ran))
	}
	node := postfix("s1")
	list := slices.Repeat([]impl.Command{{Kind: impl.CmCheck, Expr: node}}, 3)
	holdsApart(t, blocksOfCommands(list), blocksOfCommands(impl.MarkOverloads(list, make([]string, 3))))
}

// TestReadsLeaveTheRoomOfTheLog asks for a bench whose log has room for what is read.
func TestReadsLeaveTheRoomOfTheLog(t *testing.T) {
	b := plainBench()
	room := slices.Repeat([]impl.Record{recordOf(3, 3, 3, 3)}, 10)
	b.Log = append(room[:0], b.Log...)
	first, _ := impl.RunBench(b, []impl.Command{readOf(1, 0, 4), readOf(1, 0, -4)})
	second, _ := impl.RunBench(b, []impl.Command{readOf(1, 0, 0)})
	if room[2] != recordOf(3, 3, 3, 3) || first.Log[2] != recordOf(1, 0, 32767, 0) || second.Log[2] != recordOf(1, 0, 0, 0) {
		t.Errorf("the room holds %v, the logs %v and %v", room, first.Log, second.Log)
	}
}
