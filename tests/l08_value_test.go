package tests

import (
	"math"
	"math/rand/v2"
	"slices"
	"testing"

	"loop.example/g03320/impl"
)

// holdsValue asks for the value, in each part and sign.
func holdsValue(t *testing.T, list []impl.Node, slots []complex128, want complex128) {
	t.Helper()
	if got, ok := impl.EvalExpr(list, slots); !sameWide(got, want) || !ok {
		t.Fatalf("EvalExpr(%v, %v) = %v, %v; want %v", list, slots, got, ok, want)
	}
}

// holdsNoValue asks for 0 and false.
func holdsNoValue(t *testing.T, list []impl.Node, slots []complex128) {
	t.Helper()
	if got, ok := impl.EvalExpr(list, slots); !isPlusZero(got) || ok {
		t.Fatalf("EvalExpr(%v, %v) = %v, %v", list, slots, got, ok)
	}
}

// operated tells what an operator makes of its operands (a second one that it has not is not
// looked at), be it finite or not, in other words than the program; false for a quotient by 0.
func operated(kind int, x complex128, y complex128) (complex128, bool) {
	a, b, c, d := real(x), imag(x), real(y), imag(y)
	switch kind {
	case 3:
		return x, true
	case 4:
		return complex(reversed(a), reversed(b)), true
	case 5:
		return complex(a, reversed(b)), true
	case 6:
		return complex(a, 0), true
	case 7:
		return complex(b, 0), true
	case 8:
		return complex(a+c, b+d), true
	case 9:
		return complex(a-c, b-d), true
	case 10:
		return corrected(stepOf(impl.CoMul, y), x), true
	case 11:
		return x / y, c != 0 || d != 0
	}
	if a == c && b == d {
		return 1, true
	}
	return 0, true
}

// valueTold tells the value of an expression, from its last node on.
func valueTold(e tree, slots []complex128) (complex128, bool) {
	var value complex128
	switch {
	case e.node.Kind == impl.ExNumber:
		value = e.node.Value
	case e.node.Kind == impl.ExSlot:
		if e.node.Slot >= len(slots) {
			return 0, false
		}
		value = slots[e.node.Slot]
	default:
		var operands [2]complex128
		for i, operand := range e.below {
			ok := false
			if operands[i], ok = valueTold(operand, slots); !ok {
				return 0, false
			}
		}
		ok := false
		if value, ok = operated(e.node.Kind, operands[0], operands[1]); !ok {
			return 0, false
		}
	}
	if !finiteWide(value) {
		return 0, false
	}
	return value, true
}

// holdsValueTold holds EvalExpr against valueTold, and reports whether there is a value.
func holdsValueTold(t *testing.T, e tree, slots []complex128) bool {
	t.Helper()
	want, ok := valueTold(e, slots)
	if !ok {
		holdsNoValue(t, e.list(), slots)
		return false
	}
	holdsValue(t, e.list(), slots, want)
	return true
}

func TestEvalExprOfEachKind(t *testing.T) {
	slots := []complex128{complex(3, 4), complex(1, -2), 5, complex(0, 2), complex(3, 4), complex(3, -4), complex(-3, 4)}
	cases := []struct {
		words string
		want  complex128
	}{
		{"0", 0}, {"1", 1}, {"0.75", 0.75}, {"3i", complex(0, 3)}, {"s0", complex(3, 4)}, {"s6", complex(-3, 4)},
		{"s0 pos", complex(3, 4)}, {"s0 neg", complex(-3, -4)}, {"s0 conj", complex(3, -4)}, {"s0 re", 3}, {"s0 im", 4}, {"s1 im", -2}, {"s6 re", -3},
		{"s0 s1 add", complex(4, 2)}, {"s0 s1 sub", complex(2, 6)}, {"s1 s0 sub", complex(-2, -6)}, {"s0 s1 mul", complex(11, -2)}, {"s0 s1 div", complex(-1, 2)}, {"s0 s3 div", complex(2, -1.5)}, {"s2 s3 div", complex(0, -2.5)},
		{"s0 s4 eq", 1}, {"s0 s0 eq", 1}, {"s0 s5 eq", 0}, {"s0 s6 eq", 0}, {"s0 s1 eq", 0}, {"s2 5 eq", 1}, {"s3 2i eq", 1}, {"s3 2 eq", 0}, {"0 0i eq", 1},
		{"s0 1 sub 2i mul", complex(-8, 4)}, {"s0 s1 s2 sub sub", complex(7, 6)}, {"s0 s1 sub s2 sub", complex(-3, 6)}, {"s0 s1 eq s2 s2 eq eq", 0}, {"s0 s1 eq s2 s3 eq eq", 1}, {"s0 re s0 im 1i mul add s0 eq", 1}, {"s0 s0 conj mul", 25}, {"s2 s0 s0 eq mul", 5},
	}
	for _, c := range cases {
		holdsValue(t, postfix(c.words), slots, c.want)
	}
	for _, x := range amountsOfNumbers() {
		holdsValue(t, []impl.Node{numberNode(complex(x, 0))}, nil, complex(x, 0))
		holdsValue(t, []impl.Node{numberNode(complex(0, x)), operatorNode(impl.ExMinus)}, nil, complex(math.Copysign(0, -1), -x))
	}
}

func TestSignsOfZeroInValues(t *testing.T) {
	minus := math.Copysign(0, -1)
	slots := []complex128{0, complex(minus, 0), complex(0, minus), complex(minus, minus), complex(minus, 3), complex(-3, minus), 1}
	cases := []struct {
		words string
		want  complex128
	}{
		{"s0 pos", 0}, {"s1 pos", complex(minus, 0)}, {"s2 pos", complex(0, minus)}, {"s3 pos", complex(minus, minus)},
		{"s0 neg", complex(minus, minus)}, {"s1 neg", complex(0, minus)}, {"s2 neg", complex(minus, 0)}, {"s3 neg", 0}, {"0 neg", complex(minus, minus)}, {"1 neg", complex(-1, minus)}, {"1i neg", complex(minus, -1)},
		{"s0 conj", complex(0, minus)}, {"s1 conj", complex(minus, minus)}, {"s2 conj", 0}, {"s3 conj", complex(minus, 0)}, {"1 conj", complex(1, minus)},
		{"s0 re", 0}, {"s1 re", complex(minus, 0)}, {"s2 re", 0}, {"s3 re", complex(minus, 0)}, {"s4 re", complex(minus, 0)}, {"s5 re", -3},
		{"s0 im", 0}, {"s1 im", 0}, {"s2 im", complex(minus, 0)}, {"s3 im", complex(minus, 0)}, {"s5 im", complex(minus, 0)}, {"s4 im", 3},
		{"s3 s3 add", complex(minus, minus)}, {"s3 s0 add", 0}, {"s0 s3 sub", 0}, {"s3 s0 sub", complex(minus, minus)}, {"s1 s2 sub", complex(minus, 0)}, {"s6 s6 sub", 0}, {"s6 s6 neg add", 0},
		{"s6 s3 mul", complex(0, minus)}, {"s6 neg s0 mul", complex(0, minus)}, {"s0 s6 neg mul", complex(0, minus)}, {"s5 s0 mul", complex(0, minus)}, {"s0 2i neg div", complex(minus, minus)}, {"s3 s6 div", complex(minus, 0)},
		{"s0 s1 eq", 1}, {"s0 s2 eq", 1}, {"s0 s3 eq", 1}, {"s1 s2 eq", 1}, {"s0 0 neg eq", 1}, {"s4 3i eq", 1}, {"s5 3 neg eq", 1}, {"s4 s5 eq", 0}, {"s0 s6 eq", 0}, {"s0 s4 eq", 0},
	}
	for _, c := range cases {
		holdsValue(t, postfix(c.words), slots, c.want)
	}
}

func TestEvalExprAsksForTheSlots(t *testing.T) {
	slots := []complex128{1, 2, 3, 4, 5, 6, 7, 8, 9, 10, 11, 12}
	for place := range 10 {
		list := []impl.Node{slotNode(place)}
		for n := range len(slots) + 1 {
			if n <= place {
				holdsNoValue(t, list, slots[:n])
				// The element stands behind the list, where it does not count; nor do other nodes.
				holdsNoValue(t, append(list, postfix("0 mul")...), slots[:n])
				holdsNoValue(t, append(postfix("1 2"), append(list, postfix("neg eq add")...)...), slots[:n])
				continue
			}
			holdsValue(t, list, slots[:n], complex(float64(place+1), 0))
		}
		holdsNoValue(t, list, nil)
		holdsNoValue(t, list, []complex128{})
	}
	holdsValue(t, postfix("1 2i add"), nil, complex(1, 2))
	holdsValue(t, postfix("1 2i add"), []complex128{complex(math.NaN(), 0)}, complex(1, 2))
	holdsValue(t, postfix("s9 s0 sub s9 s2 mul sub"), slots, complex(9-30, 0))
}

func TestEvalExprAsksForFiniteSlots(t *testing.T) {
	for _, z := range notFinite() {
		for _, words := range []string{"s2", "s2 pos", "s2 neg", "s2 conj", "s2 re", "s2 im", "s2 0 mul", "0 s2 mul", "1 s2 div", "s2 s2 eq", "0 s2 eq", "s2 s2 sub", "s2 s2 div", "s2 re s0 eq", "s0 s1 s2 eq eq"} {
			holdsNoValue(t, postfix(words), []complex128{1, 2, z, 3})
		}
		holdsValue(t, postfix("s0 s1 add s3 mul"), []complex128{1, 2, z, 3, z, z}, 9)
	}
}

func TestEvalExprAsksForDivisors(t *testing.T) {
	least, minus := math.SmallestNonzeroFloat64, math.Copysign(0, -1)
	for _, zero := range zeros() {
		for _, x := range []complex128{0, 1, complex(3, -4), complex(minus, 1), complex(0, -math.MaxFloat64), complex(least, 0), complex(minus, minus)} {
			for _, words := range []string{"s0 s1 div", "s0 s1 neg div", "s0 s1 pos div", "s0 s1 conj div", "s0 s1 re div", "s0 s1 im div", "s0 s1 s0 mul div", "s0 s1 div s0 s1 div eq", "s0 s1 div 0 mul", "s0 s1 div re", "s0 s0 s0 sub div"} {
				holdsNoValue(t, postfix(words), []complex128{x, zero})
			}
			holdsValue(t, postfix("s1 s0 add s0 eq"), []complex128{x, zero}, 1)
		}
	}
	holdsNoValue(t, postfix("1 0 div"), nil)
	holdsNoValue(t, postfix("0 0 div"), nil)
	holdsNoValue(t, postfix("1 0i neg div"), nil)
	holdsNoValue(t, postfix("1 2 3 eq div"), nil)
	holdsValue(t, postfix("1 3 3 eq div"), nil, 1)
	// A product that is rounded to 0, and numbers that are not.
	holdsNoValue(t, postfix("1 s0 s0 mul div"), []complex128{1e-200})
	holdsValue(t, postfix("s0 s0 div"), []complex128{complex(0, least)}, 1)
	holdsValue(t, postfix("s0 s1 div"), []complex128{complex(1, -2), complex(minus, 1)}, complex(-2, -1))
	holdsValue(t, postfix("0 s0 div"), []complex128{complex(least, 0)}, 0)
}

func TestEvalExprAsksForFiniteValues(t *testing.T) {
	const greatest, least = math.MaxFloat64, math.SmallestNonzeroFloat64
	slots := []complex128{greatest, complex(0, greatest), least, complex(1, greatest), complex(greatest, -greatest), 2, complex(0x1p1000, 0x1p1000), complex(0x1p24, 0x1p23)}
	// At the end, in one part or both, and in the middle, though what follows would make a finite number of it.
	words := []string{
		"s0 s0 add", "s1 s1 add", "s3 s3 add", "s4 s4 add", "s0 s0 neg sub", "s1 neg s1 sub", "s0 s5 mul", "s1 s5 mul", "s0 s0 mul", "s3 s3 mul", "s6 s7 mul", "s0 s2 div", "1 s2 div", "s1 s2 div", "s4 0.5 div", "s4 s4 div",
		"s0 s0 add 0 mul", "s0 s0 add s0 s0 add eq", "s0 s0 add re", "s1 s1 add re", "s3 s3 add re", "s0 s0 add im", "s5 s0 s0 add div", "s0 s0 add s0 sub", "s0 s5 mul s5 div", "s0 s0 mul neg", "s0 s0 mul conj", "1 s2 div 0 eq", "s0 s0 mul s0 s0 mul sub", "s3 s3 add pos re", "0 s0 s0 add mul", "s5 s5 s0 s0 add eq add",
	}
	for _, each := range words {
		holdsNoValue(t, postfix(each), slots)
	}
	holdsValue(t, postfix("s0 s0 sub"), slots, 0)
	holdsValue(t, postfix("s0 neg"), slots, complex(-greatest, math.Copysign(0, -1)))
	holdsValue(t, postfix("s0 1 add"), slots, greatest)
	holdsValue(t, postfix("s0 s0 eq"), slots, 1)
	holdsValue(t, postfix("s4 1 mul s4 eq"), slots, 1)
	holdsValue(t, postfix("s2 s2 mul"), slots, 0)
	holdsValue(t, postfix("s0 0.5 mul s0 0.5 mul add"), slots, greatest)
}

// TestProductsInExpressionsAreRounded pins products that a fused sum would not make 0, or equal.
func TestProductsInExpressionsAreRounded(t *testing.T) {
	x := 1 + 0x1p-30
	slots := []complex128{complex(x, x), complex(x, -x), complex(0.1, 0.3), complex(0.3, 0.1)}
	holdsValue(t, postfix("s0 s0 mul re"), slots, 0)
	holdsValue(t, postfix("s0 s1 mul im"), slots, 0)
	holdsValue(t, postfix("s2 s3 mul re"), slots, 0)
	holdsValue(t, postfix("s0 s0 mul s0 re s0 re mul sub"), slots, complex(-(1+0x1p-29), 2*(1+0x1p-29)))
}

func TestEvalExprOfEachOperatorAndManyNumbers(t *testing.T) {
	numbers := manyWideNumbers()
	count := 0
	for kind := impl.ExPlus; kind <= impl.ExEqual; kind++ {
		for i, x := range numbers {
			for j, y := range numbers {
				if operandsOf(kind) == 1 && j > 0 || (i+j)%3 > 0 {
					continue
				}
				e := tree{node: operatorNode(kind), below: []tree{{node: slotNode(0)}, {node: slotNode(1)}}[:operandsOf(kind)]}
				if holdsValueTold(t, e, []complex128{x, y}) {
					count++
				}
			}
		}
	}
	if count < 50000 {
		t.Errorf("%d values were finite", count)
	}
}

// someSlots returns ten numbers, most of them small, and some of them not finite or 0.
func someSlots(source *rand.Rand) []complex128 {
	part := func() float64 {
		switch source.IntN(20) {
		case 0:
			doubles := partDoubles()
			return doubles[source.IntN(len(doubles))]
		case 1, 2, 3:
			return math.Copysign(0, float64(1-2*source.IntN(2)))
		case 4, 5, 6, 7, 8:
			return float64(source.IntN(9) - 4)
		}
		return source.NormFloat64()
	}
	var out []complex128
	for range 10 {
		out = append(out, complex(part(), part()))
	}
	return out
}

func TestEvalExprOfManyExpressions(t *testing.T) {
	source := rand.New(rand.NewPCG(8, 6))
	values, none := 0, 0
	for _, e := range manyTrees(60) {
		for range 4 {
			slots := someSlots(source)
			if source.IntN(4) == 0 {
				slots = slots[:source.IntN(11)]
			}
			if holdsValueTold(t, e, slots) {
				values++
			} else {
				none++
			}
		}
	}
	if values < 2000 || none < 2000 {
		t.Errorf("%d values and %d that are none", values, none)
	}
}

// TestSignsLeaveValuesAsTheyAre is the second sentence of P8: behind each node in turn, a unary
// plus, or two unary minuses, change nothing.
func TestSignsLeaveValuesAsTheyAre(t *testing.T) {
	source := rand.New(rand.NewPCG(8, 7))
	for _, e := range manyTrees(6) {
		list, slots := e.list(), someSlots(source)
		want, wantOk := impl.EvalExpr(list, slots)
		for _, words := range []string{"pos", "neg neg", "neg pos neg", "pos pos"} {
			signs := postfix(words)
			for place := 1; place <= len(list) && len(list)+len(signs) <= impl.MaxNodes; place++ {
				signed := slices.Insert(slices.Clone(list), place, signs...)
				if got, ok := impl.EvalExpr(signed, slots); !sameWide(got, want) || ok != wantOk {
					t.Fatalf("%v of %v is %v, %v; with signs, %v, it is %v, %v", list, slots, want, wantOk, signed, got, ok)
				}
			}
		}
	}
	for _, z := range manyWideNumbers() {
		for _, words := range []string{"s0 pos", "s0 neg neg"} {
			if finiteWide(z) {
				holdsValue(t, postfix(words), []complex128{z}, z)
			}
		}
	}
}

// TestOnlyTheNamedSlotsCount is the last sentence of P8.
func TestOnlyTheNamedSlotsCount(t *testing.T) {
	source := rand.New(rand.NewPCG(8, 8))
	count := 0
	for _, e := range manyTrees(20) {
		list, slots := e.list(), someSlots(source)
		named := impl.SlotsOf(list)
		want, wantOk := impl.EvalExpr(list, slots)
		others := slices.Clone(slots)
		for place := range others {
			if !slices.Contains(named, place) {
				others[place] = notFinite()[source.IntN(len(notFinite()))]
				count++
			}
		}
		last := 0
		if len(named) > 0 {
			last = named[len(named)-1] + 1
		}
		for _, changed := range [][]complex128{others, others[:last], append(slices.Clone(others), complex(math.NaN(), 1)), slots[:last]} {
			if got, ok := impl.EvalExpr(list, changed); !sameWide(got, want) || ok != wantOk {
				t.Fatalf("%v of %v is %v, %v; of %v it is %v, %v", list, slots, want, wantOk, changed, got, ok)
			}
		}
		if last > 0 {
			holdsNoValue(t, list, slots[:last-1])
		}
	}
	if count < 1000 {
		t.Errorf("%d slots were changed", count)
	}
}
