package tests

import (
	"math/rand/v2"
	"slices"
	"strings"
	"testing"

	"loop.example/g03320/impl"
)

// ranTold applies commands one after the other, in other words than the program.
func ranTold(b impl.Bench, list []impl.Command) (impl.Bench, []string) {
	var lines []string
	for _, c := range list {
		line := ""
		b, line = applied(b, c)
		lines = append(lines, line)
	}
	return b, lines
}

// holdsRun asks for the last bench and the lines.
func holdsRun(t *testing.T, b impl.Bench, list []impl.Command, want impl.Bench, lines []string) {
	t.Helper()
	if got, told := impl.RunBench(b, list); !sameBench(got, want) || !slices.Equal(told, lines) {
		t.Fatalf("RunBench(%v, %v) =\n%v, %q; want\n%v, %q", b, list, got, told, want, lines)
	}
}

// someProcedure returns a bench and commands for it, at most MaxCommands of them.
func someProcedure(source *rand.Rand) (impl.Bench, []impl.Command) {
	b := someBench(source)
	var list []impl.Command
	for range []int{source.IntN(5), source.IntN(61), 60}[source.IntN(3)] {
		list = append(list, someCommand(source, b))
	}
	return b, list
}

func TestRunBench(t *testing.T) {
	list := []impl.Command{
		readOf(0, 0, 100), readOf(0, 0, 200), calcOf(1, "s0 2 div"), checkOf("s1 s1 add s0 eq"), faultOf(0, impl.FtStuck), readOf(0, 2, 5), readOf(2, 0, 0),
		readOf(1, 3, complex(-4, 4)), faultOf(1, impl.FtTurned), readOf(1, 4, complex(-4, 4)), faultOf(1, impl.FtDead), readOf(1, 5, complex(-4, 4)), checkOf("s3 s4 eq"), checkOf("s3 s4 neg eq"), calcOf(9, "s5 s5 div"), faultOf(1, 4), {},
	}
	lines := []string{
		"read +0 +25p3", "overload", "calc +0 +25p2", "equal", "fault 1", "read +0 +5p2", "error",
		"read -1p2 +1p2", "fault 2", "read +1p2 -1p2", "fault 3", "read +0 +0", "unlike", "equal", "undefined", "error", "error",
	}
	want := benchWith(func(b *impl.Bench) {
		b.Meters[0].At, b.Meters[0].Re, b.Meters[0].Im, b.Meters[0].Fault = 1, 32767, 0, impl.FtStuck
		b.Meters[1].Re, b.Meters[1].Im, b.Meters[1].Fault = 0, 0, impl.FtDead
		b.Slots = []complex128{complex(0, 200), complex(0, 100), complex(0, 20), complex(-4, 4), complex(4, -4), 0, 6, 7, 8, complex(9, -9)}
		b.Log = append(b.Log, recordOf(0, 2, 32767, 0), recordOf(0, 1, 32767, 0), recordOf(1, 0, -32767, 32767), recordOf(1, 0, 32767, -32767), recordOf(1, 0, 0, 0))
	})
	holdsRun(t, plainBench(), list, want, lines)
}

func TestRunBenchOfSomeNumberOfCommands(t *testing.T) {
	for _, list := range [][]impl.Command{nil, {}, make([]impl.Command, 0, 9)} {
		holdsRun(t, plainBench(), list, plainBench(), nil)
	}
	adding := slices.Repeat([]impl.Command{calcOf(0, "s0 1 add")}, 1000)
	for n := 1; n <= 60; n++ {
		b, lines := impl.RunBench(plainBench(), adding[:n])
		if b.Slots[0] != complex(float64(n), 0) || len(lines) != n {
			t.Errorf("%d commands: %v, %q", n, b.Slots, lines)
		}
	}
	for _, n := range []int{61, 62, 1000} {
		holdsRun(t, plainBench(), adding[:n], plainBench(), nil)
	}
	if _, lines := impl.RunBench(plainBench(), adding[:61]); lines != nil {
		t.Errorf("one command too many gives the lines %q", lines)
	}
}

func TestRunBenchUpToAFullLog(t *testing.T) {
	list := slices.Repeat([]impl.Command{readOf(1, 0, 4)}, 60)
	b, lines := impl.RunBench(plainBench(), list)
	want := append(slices.Repeat([]string{"read +1p2 +0"}, 58), "error", "error")
	if !slices.Equal(lines, want) || len(b.Log) != 60 || !impl.BenchOk(b) {
		t.Errorf("a log that fills up: %d records, %q", len(b.Log), lines)
	}
}

func TestRunBenchRejectsInvalidBenches(t *testing.T) {
	for _, b := range faultyBenches() {
		for _, list := range [][]impl.Command{nil, {calcOf(0, "1")}, {readOf(0, 0, 1), checkOf("1")}, make([]impl.Command, 61)} {
			holdsRun(t, b, list, b, nil)
		}
	}
}

// TestARunDoesOneCommandAfterTheOther is the second sentence of P9.
func TestARunDoesOneCommandAfterTheOther(t *testing.T) {
	source := rand.New(rand.NewPCG(9, 6))
	count := map[string]int{}
	for range 700 {
		first, list := someProcedure(source)
		want, lines := ranTold(first, list)
		holdsRun(t, first, list, want, lines)
		b := first
		for i, c := range list {
			next, line := impl.Apply(b, c)
			if line != lines[i] || !impl.BenchOk(next) {
				t.Fatalf("at command %d: %q; want %q", i, line, lines[i])
			}
			if line == "error" && !sameBench(next, b) {
				t.Fatalf("%v, refused, made %v of %v", c, next, b)
			}
			b = next
			count[strings.Fields(line)[0]]++
		}
		if !sameBench(b, want) {
			t.Fatalf("one after the other: %v; want %v", b, want)
		}
	}
	for _, word := range []string{"error", "overload", "outside", "read", "undefined", "calc", "equal", "unlike", "fault"} {
		if count[word] < 150 {
			t.Errorf("%d lines are %q", count[word], word)
		}
	}
	if len(count) != 9 {
		t.Errorf("%v", count)
	}
}

// TestRunsInParts runs the first commands, and then the others.
func TestRunsInParts(t *testing.T) {
	source := rand.New(rand.NewPCG(9, 7))
	for range 200 {
		b, list := someProcedure(source)
		want, lines := impl.RunBench(b, list)
		cut := source.IntN(len(list) + 1)
		middle, first := impl.RunBench(b, list[:cut])
		holdsRun(t, middle, list[cut:], want, lines[cut:])
		if !slices.Equal(first, lines[:cut]) {
			t.Fatalf("the first %d lines are %q; want %q", cut, first, lines[:cut])
		}
	}
}
