package tests

import (
	"math"
	"math/rand/v2"
	"slices"
	"testing"

	"loop.example/g03320/impl"
)

// randomStep returns a valid step of any kind. Its number has small whole parts, tenths, parts that
// are 0 with either sign, or now and then parts of any exponent.
func randomStep(source *rand.Rand) impl.Step {
	kind := 1 + source.IntN(7)
	if kind == impl.CoTurn {
		return turnStep(source.IntN(4), source.IntN(2*impl.MaxPower+1)-impl.MaxPower)
	}
	if kind > impl.CoDiv {
		return stepOf(kind, zeros()[source.IntN(4)])
	}
	parts := [2]float64{}
	for i := range parts {
		parts[i] = float64(source.IntN(19) - 9)
		switch source.IntN(8) {
		case 0:
			parts[i] = math.Copysign(0, parts[i])
		case 1, 2:
			parts[i] /= 10
		case 3:
			parts[i] = math.Float64frombits(source.Uint64())
		}
	}
	if s := stepOf(kind, complex(parts[0], parts[1])); isStep(s) {
		return s
	}
	return stepOf(kind, complex(0, 1))
}

// manyChains returns n valid lists of steps, of all lengths.
func manyChains(n int) [][]impl.Step {
	source := rand.New(rand.NewPCG(5, uint64(n)))
	var out [][]impl.Step
	for i := range n {
		list := make([]impl.Step, 0, impl.MaxSteps)
		for range i % (impl.MaxSteps + 1) {
			list = append(list, randomStep(source))
		}
		out = append(out, list)
	}
	return out
}

// startNumbers returns finite numbers to be corrected.
func startNumbers() []complex128 {
	const greatest, least = math.MaxFloat64, math.SmallestNonzeroFloat64
	minus := math.Copysign(0, -1)
	return append(zeros(), 1, complex(0, 1), complex(3, -4), complex(-0.1, 0.3), complex(minus, 5), complex(-7, minus), complex(1e-5, -2e5), complex(greatest, 1), complex(-1, greatest), complex(least, -least), complex(0x1p-1022, 0x1p-1040))
}

// tracedResults tells the results of valid steps, in other words than the program.
func tracedResults(list []impl.Step, z complex128) []complex128 {
	var out []complex128
	for _, s := range list {
		z = corrected(s, z)
		if !finiteWide(z) {
			break
		}
		out = append(out, z)
	}
	return out
}

// holdsChain asks for the results of a valid list and a finite number.
func holdsChain(t *testing.T, list []impl.Step, z complex128, want []complex128) {
	t.Helper()
	if got := impl.TraceSteps(list, z); !slices.EqualFunc(got, want, sameWide) {
		t.Errorf("TraceSteps(%v, %v) = %v; want %v", list, z, got, want)
	}
	last, wantOk := z, len(want) == len(list)
	if len(want) > 0 {
		last = want[len(want)-1]
	}
	if !wantOk {
		last = 0
	}
	if got, ok := impl.Correct(list, z); !sameWide(got, last) || ok != wantOk {
		t.Errorf("Correct(%v, %v) = %v, %v; want %v, %v", list, z, got, ok, last, wantOk)
	}
}

func TestCorrectDoesTheStepsInOrder(t *testing.T) {
	add, double, divide := stepOf(impl.CoAdd, 1), stepOf(impl.CoMul, 2), stepOf(impl.CoDiv, complex(0, 2))
	subtract, conjugate, negate, turn := stepOf(impl.CoSub, complex(0, 1)), stepOf(impl.CoConj, 0), stepOf(impl.CoNeg, 0), turnStep(1, 1)
	cases := []struct {
		list []impl.Step
		z    complex128
		want []complex128
	}{
		{[]impl.Step{add, stepOf(impl.CoMul, complex(0, 2)), conjugate}, 3, []complex128{4, complex(0, 8), complex(0, -8)}},
		{[]impl.Step{add, double}, 3, []complex128{4, 8}}, {[]impl.Step{double, add}, 3, []complex128{6, 7}},
		{[]impl.Step{conjugate, turn}, complex(3, 4), []complex128{complex(3, -4), complex(8, 6)}}, {[]impl.Step{turn, conjugate}, complex(3, 4), []complex128{complex(-8, 6), complex(-8, -6)}},
		{[]impl.Step{negate, divide, subtract}, complex(4, 2), []complex128{complex(-4, -2), complex(-1, 2), complex(-1, 1)}}, {[]impl.Step{subtract, divide, negate}, complex(4, 2), []complex128{complex(4, 1), complex(0.5, -2), complex(-0.5, 2)}},
		{[]impl.Step{add, add, add}, complex(0, 1), []complex128{complex(1, 1), complex(2, 1), complex(3, 1)}},
		// What is rounded off on the way does not come back.
		{[]impl.Step{stepOf(impl.CoAdd, 0x1p53), add, add, stepOf(impl.CoSub, 0x1p53)}, 0, []complex128{0x1p53, 0x1p53, 0x1p53, 0}},
		{[]impl.Step{turnStep(0, -60), turnStep(0, 60)}, 0x1.8p-1015, []complex128{math.SmallestNonzeroFloat64, 0x1p-1014}},
	}
	for _, c := range cases {
		holdsChain(t, c.list, c.z, c.want)
	}
	var doubled []complex128
	for i := range impl.MaxSteps {
		doubled = append(doubled, complex(math.Ldexp(1, i+1), 0))
	}
	holdsChain(t, repeated(double, impl.MaxSteps), 1, doubled)
}

func TestCorrectWithoutSteps(t *testing.T) {
	for _, list := range [][]impl.Step{nil, {}} {
		for _, z := range manyWideNumbers() {
			want, wantOk := z, finiteWide(z)
			if !wantOk {
				want = 0
			}
			if got, ok := impl.Correct(list, z); !sameWide(got, want) || ok != wantOk {
				t.Errorf("Correct of no step (%v) = %v, %v; want %v, %v", z, got, ok, want, wantOk)
			}
			if got := impl.TraceSteps(list, z); len(got) != 0 {
				t.Errorf("TraceSteps of no step (%v) = %v", z, got)
			}
		}
	}
}

func TestCorrectEndsAtTheFirstStepThatFails(t *testing.T) {
	const greatest = math.MaxFloat64
	// Each of these fails for a number with both parts the greatest.
	failing := []impl.Step{stepOf(impl.CoAdd, greatest), stepOf(impl.CoSub, complex(0, -greatest)), stepOf(impl.CoMul, 2), stepOf(impl.CoMul, complex(1, 1)), stepOf(impl.CoDiv, 0.5), stepOf(impl.CoDiv, complex(1, 1)), turnStep(0, 1), turnStep(3, 60)}
	z := complex(greatest, greatest)
	for _, bad := range failing {
		for _, n := range []int{1, 2, 3, 7, impl.MaxSteps} {
			for _, place := range []int{0, n / 2, n - 1} {
				list := repeated(stepOf(impl.CoAdd, 1), n)
				list[place] = bad
				want := slices.Repeat([]complex128{z}, place)
				holdsChain(t, list, z, want)
			}
		}
	}
	// A later step would make a finite number of the result again.
	holdsChain(t, []impl.Step{stepOf(impl.CoMul, 2), stepOf(impl.CoMul, 0), turnStep(0, -1)}, z, nil)
	holdsChain(t, []impl.Step{stepOf(impl.CoNeg, 0), turnStep(0, 1), turnStep(0, -1)}, z, []complex128{complex(-greatest, -greatest)})
}

func TestCorrectOfManyChains(t *testing.T) {
	whole, cut := 0, 0
	for _, list := range manyChains(1500) {
		for _, z := range startNumbers() {
			want := tracedResults(list, z)
			holdsChain(t, list, z, want)
			if len(want) == len(list) {
				whole++
			} else {
				cut++
			}
		}
		if t.Failed() {
			return
		}
	}
	if whole < 1000 || cut < 1000 {
		t.Errorf("%d chains came to their end and %d did not", whole, cut)
	}
}

func TestCorrectRejects(t *testing.T) {
	for _, list := range listsWithAFault() {
		for _, z := range []complex128{1, complex(math.MaxFloat64, -3), complex(math.NaN(), 0)} {
			if got, ok := impl.Correct(list, z); !sameWide(got, 0) || ok {
				t.Errorf("Correct(%v, %v) = %v, %v; want 0, false", list, z, got, ok)
			}
			if got := impl.TraceSteps(list, z); got != nil {
				t.Errorf("TraceSteps(%v, %v) = %v; want nil", list, z, got)
			}
		}
		if got, ok := impl.CorrectSingle(list, 1); !sameNarrow(got, 0) || ok {
			t.Errorf("CorrectSingle(%v, 1) = %v, %v; want 0, false", list, got, ok)
		}
	}
	for _, z := range notFinite() {
		for _, list := range [][]impl.Step{nil, {stepOf(impl.CoConj, 0)}, {stepOf(impl.CoMul, 0)}, {turnStep(2, -60), stepOf(impl.CoAdd, 1)}} {
			if got, ok := impl.Correct(list, z); !sameWide(got, 0) || ok {
				t.Errorf("Correct(%v, %v) = %v, %v; want 0, false", list, z, got, ok)
			}
			if got := impl.TraceSteps(list, z); got != nil {
				t.Errorf("TraceSteps(%v, %v) = %v; want nil", list, z, got)
			}
		}
	}
}

func TestCorrectSingle(t *testing.T) {
	const greatest, least = greatestSingle, leastSingle
	half := stepOf(impl.CoMul, 0.5)
	cases := []struct {
		list    []impl.Step
		z, want complex64
		ok      bool
	}{
		{nil, complex(minusZero(), -3), complex(minusZero(), -3), true}, {[]impl.Step{turnStep(1, 0)}, complex(minusZero(), 0), complex(minusZero(), minusZero()), true},
		{[]impl.Step{stepOf(impl.CoAdd, 1), stepOf(impl.CoMul, complex(0, 2)), stepOf(impl.CoConj, 0)}, 3, complex(0, -8), true},
		// The steps themselves are not those of singles.
		{[]impl.Step{stepOf(impl.CoAdd, 0x1p-40), stepOf(impl.CoSub, 1)}, 1, 0x1p-40, true}, {[]impl.Step{stepOf(impl.CoMul, 1e100), stepOf(impl.CoDiv, 1e100)}, 3, 3, true}, {[]impl.Step{turnStep(0, 60), turnStep(0, -60)}, complex(greatest, -greatest), complex(greatest, -greatest), true},
		{[]impl.Step{turnStep(0, -60), turnStep(0, 60)}, complex(least, -3*least), complex(least, -3*least), true}, {[]impl.Step{stepOf(impl.CoMul, 0.1)}, 3, 0.3, true},
		// Finite, but too great for a single, or just not.
		{[]impl.Step{turnStep(0, 1)}, greatest, 0, false}, {[]impl.Step{turnStep(0, 1)}, complex(0, -greatest), 0, false}, {[]impl.Step{turnStep(3, 60)}, complex(1, greatest), 0, false}, {[]impl.Step{stepOf(impl.CoAdd, 0x1p103)}, greatest, 0, false}, {[]impl.Step{stepOf(impl.CoSub, complex(0, 0x1p103))}, complex(1, -greatest), 0, false},
		{[]impl.Step{stepOf(impl.CoAdd, 0x1p103-0x1p75)}, greatest, complex(greatest, 0), true}, {[]impl.Step{stepOf(impl.CoAdd, math.MaxFloat64)}, 0, 0, false},
		// Not finite before it is narrowed.
		{[]impl.Step{stepOf(impl.CoMul, math.MaxFloat64)}, 2, 0, false}, {[]impl.Step{stepOf(impl.CoMul, math.MaxFloat64), stepOf(impl.CoMul, 0)}, complex(1, 2), 0, false},
		// Rounded to 0, with the sign, or to a subnormal that is even.
		{[]impl.Step{half}, complex(least, -least), complex(0, minusZero()), true}, {[]impl.Step{turnStep(0, -1)}, complex(least, -least), complex(0, minusZero()), true}, {[]impl.Step{turnStep(0, -1)}, complex(3*least, -5*least), complex(2*least, -2*least), true}, {[]impl.Step{turnStep(2, -60)}, complex(0x1p-90, just(0x1p-90, 1)), complex(minusZero(), -least), true},
		{[]impl.Step{stepOf(impl.CoDiv, math.MaxFloat64)}, complex(-1, 1), complex(minusZero(), 0), true}, {[]impl.Step{stepOf(impl.CoMul, 0)}, complex(greatest, 3), 0, true},
	}
	for _, c := range cases {
		if got, ok := impl.CorrectSingle(c.list, c.z); !sameNarrow(got, c.want) || ok != c.ok {
			t.Errorf("CorrectSingle(%v, %v) = %v, %v; want %v, %v", c.list, c.z, got, ok, c.want, c.ok)
		}
	}
	lists := append(manyChains(70), nil, []impl.Step{stepOf(impl.CoConj, 0)}, []impl.Step{stepOf(impl.CoMul, 0)})
	for _, list := range lists {
		for _, z := range manyNumbers() {
			wide := complex128(z)
			want, wantOk := complex64(0), false
			if results := tracedResults(list, wide); finiteWide(wide) && len(results) == len(list) {
				want = complex64(append([]complex128{wide}, results...)[len(results)])
				wantOk = finiteWide(complex128(want))
			}
			if !wantOk {
				want = 0
			}
			if got, ok := impl.CorrectSingle(list, z); !sameNarrow(got, want) || ok != wantOk {
				t.Fatalf("CorrectSingle(%v, %v) = %v, %v; want %v, %v", list, z, got, ok, want, wantOk)
			}
		}
	}
}

// TestStepsInTwoPartsAreAllSteps is the first sentence of P5.
func TestStepsInTwoPartsAreAllSteps(t *testing.T) {
	for _, list := range manyChains(600) {
		for _, z := range startNumbers() {
			all, allOk := impl.Correct(list, z)
			trace := impl.TraceSteps(list, z)
			for cut := range len(list) + 1 {
				half, firstOk := impl.Correct(list[:cut], z)
				got, secondOk := impl.Correct(list[cut:], half)
				if ok := firstOk && secondOk; ok != allOk || ok && !sameWide(got, all) {
					t.Fatalf("%v of %v is %v, %v; in two parts, cut at %d, %v, %v", list, z, all, allOk, cut, got, ok)
				}
				parts := impl.TraceSteps(list[:cut], z)
				if firstOk {
					parts = append(parts, impl.TraceSteps(list[cut:], half)...)
				}
				if !slices.EqualFunc(parts, trace, sameWide) {
					t.Fatalf("%v of %v is traced as %v; in two parts, cut at %d, as %v", list, z, trace, cut, parts)
				}
			}
		}
	}
}
