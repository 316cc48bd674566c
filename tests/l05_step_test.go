package tests

import (
	"math"
	"slices"
	"testing"

	"loop.example/g03320/impl"
)

// stepOf returns a step with a number and no turn.
func stepOf(kind int, by complex128) impl.Step { return impl.Step{Kind: kind, By: by} }

// turnStep returns a step with a turn and no number.
func turnStep(quarter int, power int) impl.Step {
	return impl.Step{Kind: impl.CoTurn, Turn: turnOf(quarter, power)}
}

// fullStep returns a step in which nothing need be 0.
func fullStep(kind int, by complex128, turn impl.Turn) impl.Step {
	return impl.Step{Kind: kind, By: by, Turn: turn}
}

// sameStep holds steps against each other, with the signs of 0.
func sameStep(a impl.Step, b impl.Step) bool {
	return a.Kind == b.Kind && sameWide(a.By, b.By) && a.Turn == b.Turn
}

func sameSteps(a []impl.Step, b []impl.Step) bool { return slices.EqualFunc(a, b, sameStep) }

// zeros returns 0 with each sign in each part.
func zeros() []complex128 {
	minus := math.Copysign(0, -1)
	return []complex128{0, complex(minus, 0), complex(0, minus), complex(minus, minus)}
}

// notFinite returns numbers with one part, or both, infinite or NaN.
func notFinite() []complex128 {
	nan, inf := math.NaN(), math.Inf(1)
	return []complex128{
		complex(nan, 0), complex(0, nan), complex(nan, 1), complex(1, nan), complex(inf, 0), complex(0, inf), complex(-inf, 0), complex(0, -inf),
		complex(inf, 1), complex(1, -inf), complex(inf, inf), complex(nan, nan), complex(inf, nan), complex(nan, -inf),
	}
}

// noKinds returns numbers that are no kinds.
func noKinds() []int {
	return []int{0, 8, 9, -1, -2, -7, -8, 15, 256 + impl.CoAdd, 1<<32 + impl.CoConj, math.MinInt, math.MinInt + impl.CoMul, math.MaxInt}
}

// allKinds returns the seven kinds, in order.
func allKinds() []int {
	return []int{impl.CoAdd, impl.CoSub, impl.CoMul, impl.CoDiv, impl.CoConj, impl.CoNeg, impl.CoTurn}
}

// isStep tells what a valid step is, in other words than the program.
func isStep(s impl.Step) bool {
	byZero := real(s.By) == 0 && imag(s.By) == 0
	turnZero := s.Turn.Quarter == 0 && s.Turn.Power == 0
	turnValid := uint(s.Turn.Quarter) < 4 && uint(s.Turn.Power+60) <= 120
	switch s.Kind {
	case 1, 2, 3:
		return turnZero && finiteWide(s.By)
	case 4:
		return turnZero && finiteWide(s.By) && !byZero
	case 5, 6:
		return turnZero && byZero
	case 7:
		return turnValid && byZero
	}
	return false
}

func TestStepConstants(t *testing.T) {
	if want := []int{1, 2, 3, 4, 5, 6, 7}; !slices.Equal(allKinds(), want) {
		t.Errorf("the kinds are %v; want %v", allKinds(), want)
	}
	if impl.MaxSteps != 20 {
		t.Errorf("MaxSteps is %d", impl.MaxSteps)
	}
}

func TestStepOkAsksForANumber(t *testing.T) {
	const greatest, least = math.MaxFloat64, math.SmallestNonzeroFloat64
	minus := math.Copysign(0, -1)
	for _, kind := range []int{impl.CoAdd, impl.CoSub, impl.CoMul, impl.CoDiv} {
		for _, by := range []complex128{1, complex(-3, 4), complex(0, 1), complex(-1, minus), complex(minus, -1), least, complex(0, -least), complex(minus, least), greatest, complex(-greatest, greatest)} {
			if !impl.StepOk(stepOf(kind, by)) {
				t.Errorf("kind %d by %v is not valid", kind, by)
			}
		}
		for _, by := range zeros() {
			if got, want := impl.StepOk(stepOf(kind, by)), kind != impl.CoDiv; got != want {
				t.Errorf("kind %d by %v: StepOk = %v", kind, by, got)
			}
		}
		for _, by := range notFinite() {
			if impl.StepOk(stepOf(kind, by)) {
				t.Errorf("kind %d by %v is valid", kind, by)
			}
		}
		for _, turn := range append([]impl.Turn{turnOf(1, 0), turnOf(0, 1), turnOf(0, -1), turnOf(3, 0), turnOf(-1, 0)}, invalidTurns()...) {
			if impl.StepOk(fullStep(kind, 1, turn)) {
				t.Errorf("kind %d with %v is valid", kind, turn)
			}
		}
	}
}

func TestStepOkAsksForNoNumber(t *testing.T) {
	const least = math.SmallestNonzeroFloat64
	minus := math.Copysign(0, -1)
	for _, kind := range []int{impl.CoConj, impl.CoNeg, impl.CoTurn} {
		for _, by := range zeros() {
			if !impl.StepOk(stepOf(kind, by)) {
				t.Errorf("kind %d by %v is not valid", kind, by)
			}
		}
		for _, by := range append([]complex128{1, complex(0, 1), -1, complex(minus, -1), least, complex(0, least), complex(-least, minus), complex(3, 4)}, notFinite()...) {
			if impl.StepOk(stepOf(kind, by)) {
				t.Errorf("kind %d by %v is valid", kind, by)
			}
		}
		for _, turn := range validTurns() {
			want := kind == impl.CoTurn || turn == impl.Turn{}
			if got := impl.StepOk(fullStep(kind, 0, turn)); got != want {
				t.Errorf("kind %d with %v: StepOk = %v", kind, turn, got)
			}
		}
		for _, turn := range invalidTurns() {
			if impl.StepOk(fullStep(kind, 0, turn)) {
				t.Errorf("kind %d with %v is valid", kind, turn)
			}
		}
	}
}

func TestStepOkOfAllKindsNumbersAndTurns(t *testing.T) {
	turns := []impl.Turn{{}, turnOf(0, 1), turnOf(0, -1), turnOf(1, 0), turnOf(3, 60), turnOf(2, -60), turnOf(4, 0), turnOf(-1, 0), turnOf(0, 61), turnOf(0, -61), turnOf(math.MinInt, math.MaxInt)}
	for _, kind := range append(allKinds(), noKinds()...) {
		for _, by := range manyWideNumbers() {
			for _, turn := range turns {
				s := fullStep(kind, by, turn)
				if got, want := impl.StepOk(s), isStep(s); got != want {
					t.Fatalf("StepOk(%v) = %v; want %v", s, got, want)
				}
			}
		}
	}
	if impl.StepOk(impl.Step{}) {
		t.Error("the zero step is valid")
	}
}

// validSteps returns valid steps of all kinds, with numbers and turns that are at a limit, or not.
func validSteps() []impl.Step {
	var out []impl.Step
	for _, kind := range allKinds() {
		for _, by := range manyWideNumbers() {
			if s := stepOf(kind, by); isStep(s) {
				out = append(out, s)
			}
		}
	}
	for _, turn := range validTurns() {
		for _, by := range zeros() {
			out = append(out, fullStep(impl.CoTurn, by, turn))
		}
	}
	return out
}

// invalidSteps returns steps with one fault alone.
func invalidSteps() []impl.Step {
	var out []impl.Step
	for _, kind := range noKinds() {
		out = append(out, stepOf(kind, 0), stepOf(kind, 1))
	}
	for _, by := range notFinite() {
		for _, kind := range allKinds() {
			out = append(out, stepOf(kind, by))
		}
	}
	for _, by := range zeros() {
		out = append(out, stepOf(impl.CoDiv, by))
	}
	for _, kind := range []int{impl.CoConj, impl.CoNeg, impl.CoTurn} {
		out = append(out, stepOf(kind, 1), stepOf(kind, complex(0, -1)))
	}
	for _, kind := range []int{impl.CoAdd, impl.CoSub, impl.CoMul, impl.CoDiv} {
		out = append(out, fullStep(kind, 1, turnOf(1, 0)), fullStep(kind, 1, turnOf(0, 1)))
	}
	for _, kind := range []int{impl.CoConj, impl.CoNeg} {
		out = append(out, fullStep(kind, 0, turnOf(1, 0)), fullStep(kind, 0, turnOf(0, 1)))
	}
	for _, turn := range invalidTurns() {
		out = append(out, fullStep(impl.CoTurn, 0, turn))
	}
	return out
}

// repeated returns n steps that are all alike.
func repeated(s impl.Step, n int) []impl.Step { return slices.Repeat([]impl.Step{s}, n) }

// listsWithAFault returns lists that are not valid: too long, or with one invalid step at the
// first, a middle or the last place. Their other steps fail for no number.
func listsWithAFault() [][]impl.Step {
	var out [][]impl.Step
	for _, n := range []int{impl.MaxSteps + 1, impl.MaxSteps + 2, 2 * impl.MaxSteps, 1000} {
		out = append(out, repeated(stepOf(impl.CoConj, 0), n), repeated(impl.Step{}, n))
	}
	for _, bad := range invalidSteps() {
		for _, n := range []int{1, 2, 5, impl.MaxSteps} {
			for _, place := range []int{0, n / 2, n - 1} {
				list := repeated(stepOf(impl.CoNeg, 0), n)
				list[place] = bad
				out = append(out, list)
			}
		}
	}
	return out
}

func TestStepsOk(t *testing.T) {
	for _, list := range [][]impl.Step{nil, {}, make([]impl.Step, 0, 5)} {
		if !impl.StepsOk(list) {
			t.Error("no step is not valid")
		}
	}
	for _, s := range validSteps() {
		if !impl.StepsOk([]impl.Step{s}) {
			t.Errorf("%v alone is not valid", s)
		}
	}
	for n := range impl.MaxSteps + 1 {
		for _, s := range []impl.Step{stepOf(impl.CoAdd, 1), stepOf(impl.CoDiv, complex(0, 1)), turnStep(3, -60)} {
			if !impl.StepsOk(repeated(s, n)) {
				t.Errorf("%d steps %v are not valid", n, s)
			}
		}
	}
	for _, list := range listsWithAFault() {
		if impl.StepsOk(list) {
			t.Errorf("%v is valid", list)
		}
	}
}
