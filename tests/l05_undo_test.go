package tests

import (
	"math"
	"math/rand/v2"
	"slices"
	"testing"

	"loop.example/g03320/impl"
)

func TestUndoStepsTurnsKindsAndOrder(t *testing.T) {
	minus := math.Copysign(0, -1)
	odd := complex(minus, 5)
	cases := []struct{ list, want []impl.Step }{
		{nil, nil}, {[]impl.Step{}, nil},
		{[]impl.Step{stepOf(impl.CoAdd, odd)}, []impl.Step{stepOf(impl.CoSub, odd)}}, {[]impl.Step{stepOf(impl.CoSub, odd)}, []impl.Step{stepOf(impl.CoAdd, odd)}},
		{[]impl.Step{stepOf(impl.CoMul, odd)}, []impl.Step{stepOf(impl.CoDiv, odd)}}, {[]impl.Step{stepOf(impl.CoDiv, odd)}, []impl.Step{stepOf(impl.CoMul, odd)}},
		{[]impl.Step{stepOf(impl.CoConj, 0)}, []impl.Step{stepOf(impl.CoConj, 0)}}, {[]impl.Step{stepOf(impl.CoNeg, 0)}, []impl.Step{stepOf(impl.CoNeg, 0)}},
		{[]impl.Step{turnStep(0, 0)}, []impl.Step{turnStep(0, 0)}}, {[]impl.Step{turnStep(1, 5)}, []impl.Step{turnStep(3, -5)}}, {[]impl.Step{turnStep(2, -60)}, []impl.Step{turnStep(2, 60)}}, {[]impl.Step{turnStep(3, 60)}, []impl.Step{turnStep(1, -60)}}, {[]impl.Step{turnStep(0, 7)}, []impl.Step{turnStep(0, -7)}},
		{[]impl.Step{stepOf(impl.CoAdd, 1), stepOf(impl.CoMul, complex(0, 2)), stepOf(impl.CoConj, 0)}, []impl.Step{stepOf(impl.CoConj, 0), stepOf(impl.CoDiv, complex(0, 2)), stepOf(impl.CoSub, 1)}},
		{[]impl.Step{stepOf(impl.CoAdd, 1), stepOf(impl.CoAdd, 2), turnStep(1, 0), stepOf(impl.CoNeg, 0)}, []impl.Step{stepOf(impl.CoNeg, 0), turnStep(3, 0), stepOf(impl.CoSub, 2), stepOf(impl.CoSub, 1)}},
	}
	for _, zero := range zeros() {
		for _, kind := range []int{impl.CoConj, impl.CoNeg, impl.CoTurn} {
			cases = append(cases, struct{ list, want []impl.Step }{[]impl.Step{stepOf(kind, zero)}, []impl.Step{stepOf(kind, zero)}})
		}
		cases = append(cases, struct{ list, want []impl.Step }{[]impl.Step{stepOf(impl.CoAdd, zero), stepOf(impl.CoSub, 1)}, []impl.Step{stepOf(impl.CoAdd, 1), stepOf(impl.CoSub, zero)}})
	}
	for _, c := range cases {
		if got, ok := impl.UndoSteps(c.list); !sameSteps(got, c.want) || !ok {
			t.Errorf("UndoSteps(%v) = %v, %v; want %v, true", c.list, got, ok, c.want)
		}
	}
}

// undone tells the steps that undo those of a valid list, in other words than the program.
func undone(list []impl.Step) []impl.Step {
	kinds := []int{0, 2, 1, 4, 3, 5, 6, 7}
	var out []impl.Step
	for _, s := range slices.Backward(list) {
		s.Kind = kinds[s.Kind]
		s.Turn = turnOf(-s.Turn.Quarter&3, -s.Turn.Power)
		out = append(out, s)
	}
	return out
}

func TestUndoStepsOfManyChains(t *testing.T) {
	refused := 0
	for _, list := range manyChains(3000) {
		want, wantOk := undone(list), true
		if slices.ContainsFunc(list, func(s impl.Step) bool { return s.Kind == impl.CoMul && s.By == 0 }) {
			want, wantOk = nil, false
			refused++
		}
		got, ok := impl.UndoSteps(list)
		if !sameSteps(got, want) || ok != wantOk || !impl.StepsOk(got) {
			t.Fatalf("UndoSteps(%v) = %v, %v; want %v, %v", list, got, ok, want, wantOk)
		}
		if again, ok := impl.UndoSteps(got); wantOk && (!sameSteps(again, list) || !ok) {
			t.Fatalf("UndoSteps(UndoSteps(%v)) = %v, %v", list, again, ok)
		}
	}
	if refused < 50 {
		t.Errorf("%d lists alone have a product with 0", refused)
	}
}

func TestUndoStepsRefusesProductsWithZero(t *testing.T) {
	for _, zero := range zeros() {
		for _, n := range []int{1, 2, 5, impl.MaxSteps} {
			for _, place := range []int{0, n / 2, n - 1} {
				list := repeated(stepOf(impl.CoAdd, zero), n)
				list[place] = stepOf(impl.CoMul, zero)
				if got, ok := impl.UndoSteps(list); got != nil || ok {
					t.Errorf("UndoSteps(%v) = %v, %v; want nil, false", list, got, ok)
				}
				if got, ok := impl.MirrorSteps(list); len(got) != n || !ok {
					t.Errorf("MirrorSteps(%v) = %v, %v", list, got, ok)
				}
			}
		}
	}
	// These are not 0.
	for _, by := range []complex128{math.SmallestNonzeroFloat64, complex(0, -math.SmallestNonzeroFloat64), complex(0, 1)} {
		if got, ok := impl.UndoSteps([]impl.Step{stepOf(impl.CoMul, by)}); !sameSteps(got, []impl.Step{stepOf(impl.CoDiv, by)}) || !ok {
			t.Errorf("the product with %v is undone by %v, %v", by, got, ok)
		}
	}
}

func TestMirrorSteps(t *testing.T) {
	minus := math.Copysign(0, -1)
	cases := []struct{ list, want []impl.Step }{
		{nil, nil}, {[]impl.Step{}, nil},
		{[]impl.Step{turnStep(0, 5), turnStep(1, 60), turnStep(2, -60), turnStep(3, -1)}, []impl.Step{fullStep(impl.CoTurn, complex(0, minus), turnOf(0, 5)), fullStep(impl.CoTurn, complex(0, minus), turnOf(3, 60)), fullStep(impl.CoTurn, complex(0, minus), turnOf(2, -60)), fullStep(impl.CoTurn, complex(0, minus), turnOf(1, -1))}},
		{[]impl.Step{stepOf(impl.CoAdd, complex(3, 4)), stepOf(impl.CoSub, complex(-3, -4)), stepOf(impl.CoMul, complex(0, 1)), stepOf(impl.CoDiv, complex(minus, 2))}, []impl.Step{stepOf(impl.CoAdd, complex(3, -4)), stepOf(impl.CoSub, complex(-3, 4)), stepOf(impl.CoMul, complex(0, -1)), stepOf(impl.CoDiv, complex(minus, -2))}},
		{[]impl.Step{stepOf(impl.CoConj, 0), stepOf(impl.CoNeg, complex(minus, minus)), stepOf(impl.CoMul, complex(0, minus))}, []impl.Step{stepOf(impl.CoConj, complex(0, minus)), stepOf(impl.CoNeg, complex(minus, 0)), stepOf(impl.CoMul, 0)}},
	}
	for _, c := range cases {
		if got, ok := impl.MirrorSteps(c.list); !sameSteps(got, c.want) || !ok {
			t.Errorf("MirrorSteps(%v) = %v, %v; want %v, true", c.list, got, ok, c.want)
		}
	}
	for _, list := range manyChains(1000) {
		var want []impl.Step
		for _, s := range list {
			s.By = complex(real(s.By), reversed(imag(s.By)))
			s.Turn.Quarter = -s.Turn.Quarter & 3
			want = append(want, s)
		}
		got, ok := impl.MirrorSteps(list)
		if !sameSteps(got, want) || !ok || !impl.StepsOk(got) {
			t.Fatalf("MirrorSteps(%v) = %v, %v; want %v, true", list, got, ok, want)
		}
		if again, ok := impl.MirrorSteps(got); !sameSteps(again, list) || !ok {
			t.Fatalf("MirrorSteps(MirrorSteps(%v)) = %v, %v", list, again, ok)
		}
	}
}

func TestExactSteps(t *testing.T) {
	exact := []impl.Step{stepOf(impl.CoConj, 0), stepOf(impl.CoNeg, 0), turnStep(0, 0), turnStep(1, 0), turnStep(2, 0), turnStep(3, 0)}
	others := []impl.Step{stepOf(impl.CoAdd, 0), stepOf(impl.CoSub, 0), stepOf(impl.CoMul, 1), stepOf(impl.CoDiv, 1), turnStep(0, 1), turnStep(0, -1), turnStep(3, 60), turnStep(2, -60)}
	if !impl.ExactSteps(nil) || !impl.ExactSteps([]impl.Step{}) {
		t.Error("no step is not exact")
	}
	for _, n := range []int{1, 2, 5, impl.MaxSteps} {
		for _, s := range exact {
			for _, zero := range zeros() {
				s.By = zero
				if !impl.ExactSteps(repeated(s, n)) {
					t.Errorf("%d steps %v are not exact", n, s)
				}
			}
		}
		for _, other := range others {
			for _, place := range []int{0, n / 2, n - 1} {
				list := repeated(stepOf(impl.CoConj, 0), n)
				list[place] = other
				if impl.ExactSteps(list) {
					t.Errorf("ExactSteps(%v) is true", list)
				}
			}
		}
	}
}

func TestUndoMirrorAndExactReject(t *testing.T) {
	for _, list := range listsWithAFault() {
		if got, ok := impl.UndoSteps(list); got != nil || ok {
			t.Errorf("UndoSteps(%v) = %v, %v; want nil, false", list, got, ok)
		}
		if got, ok := impl.MirrorSteps(list); got != nil || ok {
			t.Errorf("MirrorSteps(%v) = %v, %v; want nil, false", list, got, ok)
		}
		if impl.ExactSteps(list) {
			t.Errorf("ExactSteps(%v) is true", list)
		}
	}
}

// exactChains returns n lists of steps that only turn signs and places.
func exactChains(n int) [][]impl.Step {
	source := rand.New(rand.NewPCG(55, uint64(n)))
	var out [][]impl.Step
	for i := range n {
		var list []impl.Step
		for range i % (impl.MaxSteps + 1) {
			s := stepOf(impl.CoConj+source.IntN(3), zeros()[source.IntN(4)])
			if s.Kind == impl.CoTurn {
				s.Turn.Quarter = source.IntN(4)
			}
			list = append(list, s)
		}
		out = append(out, list)
	}
	return out
}

// TestExactStepsAreUndone is the second sentence of P5.
func TestExactStepsAreUndone(t *testing.T) {
	for _, list := range exactChains(300) {
		back, can := impl.UndoSteps(list)
		if !can || !impl.ExactSteps(list) || !impl.ExactSteps(back) {
			t.Fatalf("%v is not exact, or it is not undone by %v, %v", list, back, can)
		}
		for _, z := range manyWideNumbers() {
			if !finiteWide(z) {
				continue
			}
			there, thereOk := impl.Correct(list, z)
			if got, ok := impl.Correct(back, there); !sameWide(got, z) || !ok || !thereOk {
				t.Fatalf("%v of %v is %v, %v; undone it is %v, %v", list, z, there, thereOk, got, ok)
			}
		}
	}
}

// TestUndoneStepsOfWholeNumbers tells where other steps come back, too: nothing is rounded here.
func TestUndoneStepsOfWholeNumbers(t *testing.T) {
	list := []impl.Step{stepOf(impl.CoAdd, complex(3, -7)), turnStep(3, 60), stepOf(impl.CoMul, complex(0, 4)), stepOf(impl.CoSub, complex(0x1p64, 0)), stepOf(impl.CoConj, 0), stepOf(impl.CoDiv, -8), stepOf(impl.CoNeg, 0), turnStep(1, -40)}
	back, can := impl.UndoSteps(list)
	for _, z := range []complex128{complex(1, 2), complex(-100, 55), complex(0x1p40, 1)} {
		there, ok := impl.Correct(list, z)
		if got, backOk := impl.Correct(back, there); got != z || !ok || !backOk || !can {
			t.Errorf("%v comes to %v, %v, and back to %v, %v", z, there, ok, got, backOk)
		}
	}
}

// TestMirroredStepsComeToTheConjugate is the third sentence of P5.
func TestMirroredStepsComeToTheConjugate(t *testing.T) {
	whole, cut := 0, 0
	holdsMirrored := func(list []impl.Step, z complex128) {
		mirrored, can := impl.MirrorSteps(list)
		want, wantOk := impl.Correct(list, z)
		got, ok := impl.Correct(mirrored, impl.Conjugate(z))
		if !can || ok != wantOk || got != impl.Conjugate(want) {
			t.Fatalf("%v of %v is %v, %v; mirrored, of the conjugate, %v, %v", list, z, want, wantOk, got, ok)
		}
		if length := len(impl.TraceSteps(mirrored, impl.Conjugate(z))); length != len(impl.TraceSteps(list, z)) {
			t.Fatalf("%v of %v, mirrored, ends behind %d steps", list, z, length)
		}
		if ok {
			whole++
		} else {
			cut++
		}
	}
	for _, list := range manyChains(2000) {
		for _, z := range startNumbers() {
			holdsMirrored(list, z)
		}
	}
	for i, s := range validSteps() {
		for j, z := range manyWideNumbers() {
			if (i+j)%5 == 0 {
				holdsMirrored([]impl.Step{s}, z)
			}
		}
	}
	if whole < 10000 || cut < 10000 {
		t.Errorf("%d lists came to their end and %d did not", whole, cut)
	}
}

// TestStepsAreNotChanged looks at the argument, and at the room behind it, after all calls.
func TestStepsAreNotChanged(t *testing.T) {
	room := []impl.Step{stepOf(impl.CoAdd, 1), turnStep(1, 2), stepOf(impl.CoMul, complex(0, 2)), stepOf(impl.CoNeg, 0), stepOf(impl.CoConj, 0)}
	kept := slices.Clone(room)
	list := room[:3]
	trace, traceAgain := impl.TraceSteps(list, 3), impl.TraceSteps(list, 3)
	undone, _ := impl.UndoSteps(list)
	undoneAgain, _ := impl.UndoSteps(list)
	mirrored, _ := impl.MirrorSteps(list)
	mirroredAgain, _ := impl.MirrorSteps(list)
	impl.Correct(list, 3)
	impl.CorrectSingle(list, 3)
	impl.ExactSteps(list)
	trace[0] = 99
	for i := range list {
		undone[i], mirrored[i] = impl.Step{}, impl.Step{}
	}
	if !sameSteps(room, kept) {
		t.Errorf("the steps are %v; want %v", room, kept)
	}
	if traceAgain[0] != 4 || !impl.StepsOk(undoneAgain) || !impl.StepsOk(mirroredAgain) {
		t.Errorf("the second results are %v, %v and %v", traceAgain, undoneAgain, mirroredAgain)
	}
	// Lists that are as they were when they are undone, or mirrored, are new ones as well.
	list = []impl.Step{stepOf(impl.CoConj, 0)}
	undone, _ = impl.UndoSteps(list)
	mirrored, _ = impl.MirrorSteps(list)
	undone[0], mirrored[0] = impl.Step{}, impl.Step{}
	if !sameStep(list[0], stepOf(impl.CoConj, 0)) {
		t.Errorf("the step is %v", list[0])
	}
}
