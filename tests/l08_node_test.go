package tests

import (
	"math"
	"math/big"
	"slices"
	"strconv"
	"strings"
	"testing"

	"loop.example/g03320/impl"
)

func numberNode(value complex128) impl.Node { return impl.Node{Kind: impl.ExNumber, Value: value} }

func slotNode(place int) impl.Node { return impl.Node{Kind: impl.ExSlot, Slot: place} }

func operatorNode(kind int) impl.Node { return impl.Node{Kind: kind} }

// operatorNames are the names that postfix gives the kinds from ExPlus to ExEqual, in order.
func operatorNames() []string {
	return []string{"pos", "neg", "conj", "re", "im", "add", "sub", "mul", "div", "eq"}
}

// postfix returns the nodes that the words name: operators by operatorNames, slots as s0,
// numbers as 0.75, and imaginary ones as 0.75i.
func postfix(words string) []impl.Node {
	var out []impl.Node
	for _, word := range strings.Fields(words) {
		place := slices.Index(operatorNames(), word)
		amount, err := strconv.ParseFloat(strings.TrimSuffix(word, "i"), 64)
		switch {
		case place >= 0:
			out = append(out, operatorNode(impl.ExPlus+place))
		case word[0] == 's':
			out = append(out, slotNode(int(word[1]-'0')))
		case err != nil:
			panic("postfix knows no " + word)
		case strings.HasSuffix(word, "i"):
			out = append(out, numberNode(complex(0, amount)))
		default:
			out = append(out, numberNode(complex(amount, 0)))
		}
	}
	return out
}

// sameNode holds nodes against each other, with the signs of 0.
func sameNode(a impl.Node, b impl.Node) bool {
	return a.Kind == b.Kind && a.Slot == b.Slot && sameWide(a.Value, b.Value)
}

func sameNodes(a []impl.Node, b []impl.Node) bool { return slices.EqualFunc(a, b, sameNode) }

// nodeKinds returns the twelve kinds, in order.
func nodeKinds() []int {
	return []int{
		impl.ExNumber, impl.ExSlot, impl.ExPlus, impl.ExMinus, impl.ExConj, impl.ExReal, impl.ExImag,
		impl.ExAdd, impl.ExSub, impl.ExMul, impl.ExDiv, impl.ExEqual,
	}
}

// noNodeKinds returns numbers that are no kinds of nodes.
func noNodeKinds() []int {
	return []int{0, -1, -2, -12, 13, 14, 24, 256 + impl.ExNumber, 1<<32 + impl.ExSlot, math.MinInt, math.MinInt + impl.ExAdd, math.MaxInt}
}

// operandsOf tells how many operands a kind has.
func operandsOf(kind int) int {
	switch {
	case kind <= 2:
		return 0
	case kind <= 7:
		return 1
	}
	return 2
}

// isPlusZero asks the bits, in which -0 is not 0.
func isPlusZero(z complex128) bool {
	return math.Float64bits(real(z)) == 0 && math.Float64bits(imag(z)) == 0
}

// isSingleAmount reports, by exact numbers, whether x is a finite single without a sign.
func isSingleAmount(x float64) bool {
	if math.IsNaN(x) || math.IsInf(x, 0) || math.Signbit(x) {
		return false
	}
	narrow, accuracy := new(big.Float).SetFloat64(x).Float32()
	return accuracy == big.Exact && !math.IsInf(float64(narrow), 0)
}

// isNode tells what a valid node is, in other words than the program.
func isNode(n impl.Node) bool {
	re, im := real(n.Value), imag(n.Value)
	switch {
	case n.Kind < 1 || n.Kind > 12:
		return false
	case n.Kind == 1:
		return n.Slot == 0 && (math.Float64bits(im) == 0 && isSingleAmount(re) || math.Float64bits(re) == 0 && isSingleAmount(im))
	case n.Kind == 2:
		return uint(n.Slot) < 10 && isPlusZero(n.Value)
	}
	return n.Slot == 0 && isPlusZero(n.Value)
}

// amountsOfNumbers returns parts that a number may have beside a part that is 0.
func amountsOfNumbers() []float64 {
	return []float64{0, 1, 3, 0.75, 6, 0x1p-149, 3 * 0x1p-149, 0x1p-126, 0x1.fffffcp-127, 0x1.fffffep127, 0x1p127, 0x1.000002p0, 16777215, 16777216, float64(float32(0.1))}
}

// amountsOfNone returns parts that no number has.
func amountsOfNone() []float64 {
	return []float64{
		math.Copysign(0, -1), -1, -0.75, -0x1p-149, -0x1.fffffep127, 0.1, 16777217, 0x1.000001p0, 0x1p-150, 1.5 * 0x1p-149, 0x1p-1074, 0x1.ffffffp-127,
		0x1p128, 0x1.fffffefp127, 0x1.ffffffp127, math.MaxFloat64, math.Inf(1), math.Inf(-1), math.NaN(),
	}
}

func TestExpressionConstants(t *testing.T) {
	if want := []int{1, 2, 3, 4, 5, 6, 7, 8, 9, 10, 11, 12}; !slices.Equal(nodeKinds(), want) {
		t.Errorf("the kinds are %v; want %v", nodeKinds(), want)
	}
	if impl.MaxNodes != 60 || impl.MaxSlot != 9 {
		t.Errorf("MaxNodes is %d, MaxSlot is %d", impl.MaxNodes, impl.MaxSlot)
	}
}

func TestNodeOkOfNumbers(t *testing.T) {
	for _, x := range amountsOfNumbers() {
		for _, z := range []complex128{complex(x, 0), complex(0, x)} {
			if !impl.NodeOk(numberNode(z)) {
				t.Errorf("the number %v is not valid", z)
			}
		}
		for _, y := range amountsOfNumbers() {
			if got, want := impl.NodeOk(numberNode(complex(x, y))), x == 0 || y == 0; got != want {
				t.Errorf("the number %v: NodeOk = %v", complex(x, y), got)
			}
		}
	}
	for _, x := range amountsOfNone() {
		for _, y := range append(amountsOfNumbers(), amountsOfNone()...) {
			if impl.NodeOk(numberNode(complex(x, y))) || impl.NodeOk(numberNode(complex(y, x))) {
				t.Errorf("%v and %v are the parts of a valid number", x, y)
			}
		}
	}
	for _, place := range []int{1, 9, -1, 10, math.MinInt, math.MaxInt, 1 << 32} {
		for _, z := range []complex128{0, 1, complex(0, 1)} {
			if n := (impl.Node{Kind: impl.ExNumber, Slot: place, Value: z}); impl.NodeOk(n) {
				t.Errorf("%v is valid", n)
			}
		}
	}
}

func TestNodeOkOfSlots(t *testing.T) {
	for place := -20; place <= 20; place++ {
		if got, want := impl.NodeOk(slotNode(place)), place >= 0 && place <= 9; got != want {
			t.Errorf("the slot %d: NodeOk = %v", place, got)
		}
	}
	for _, place := range []int{math.MinInt, math.MaxInt, 1 << 32, 256} {
		if impl.NodeOk(slotNode(place)) {
			t.Errorf("the slot %d is valid", place)
		}
	}
}

// TestNodeOkAsksForNoValue looks at all kinds but the number: a value has to be 0 without a sign.
func TestNodeOkAsksForNoValue(t *testing.T) {
	for _, kind := range nodeKinds()[1:] {
		if !impl.NodeOk(operatorNode(kind)) {
			t.Errorf("kind %d is not valid", kind)
		}
		for _, x := range append(amountsOfNumbers()[1:], amountsOfNone()...) {
			for _, z := range []complex128{complex(x, 0), complex(0, x), complex(x, x)} {
				if impl.NodeOk(impl.Node{Kind: kind, Value: z}) {
					t.Errorf("kind %d with the value %v is valid", kind, z)
				}
			}
		}
	}
	for _, kind := range nodeKinds()[2:] {
		for _, place := range []int{1, 5, 9, 10, -1, math.MinInt, math.MaxInt} {
			if impl.NodeOk(impl.Node{Kind: kind, Slot: place}) {
				t.Errorf("kind %d with the slot %d is valid", kind, place)
			}
		}
	}
}

func TestNodeOkOfAllKindsSlotsAndValues(t *testing.T) {
	parts := append(amountsOfNumbers(), amountsOfNone()...)
	for _, kind := range append(nodeKinds(), noNodeKinds()...) {
		for _, place := range []int{0, 1, 8, 9, 10, -1, math.MinInt, math.MaxInt} {
			for _, re := range parts {
				for _, im := range parts {
					n := impl.Node{Kind: kind, Slot: place, Value: complex(re, im)}
					if got, want := impl.NodeOk(n), isNode(n); got != want {
						t.Fatalf("NodeOk(%v) = %v; want %v", n, got, want)
					}
				}
			}
		}
	}
	if impl.NodeOk(impl.Node{}) {
		t.Error("the zero node is valid")
	}
}

// invalidNodes returns nodes with one fault alone.
func invalidNodes() []impl.Node {
	out := []impl.Node{{}, slotNode(-1), slotNode(10), {Kind: impl.ExNumber, Slot: 1}, {Kind: impl.ExMinus, Slot: 1}, {Kind: impl.ExAdd, Slot: 9}}
	for _, kind := range noNodeKinds() {
		out = append(out, operatorNode(kind))
	}
	for _, x := range amountsOfNone() {
		out = append(out, numberNode(complex(x, 0)), numberNode(complex(0, x)))
	}
	for _, kind := range nodeKinds()[1:] {
		out = append(out, impl.Node{Kind: kind, Value: 1}, impl.Node{Kind: kind, Value: complex(0, math.Copysign(0, -1))})
	}
	return append(out, numberNode(complex(1, 1)))
}

// startOf returns where the expression begins whose last node stands at the place, or -1 if it
// has no beginning: seen from the end, an operator asks for its operands.
func startOf(list []impl.Node, place int) int {
	if place < 0 {
		return -1
	}
	start := place
	for range operandsOf(list[place].Kind) {
		start = startOf(list, start-1)
		if start < 0 {
			return -1
		}
	}
	return start
}

// isExpression tells what a valid list is, in other words than the program.
func isExpression(list []impl.Node) bool {
	noNode := func(n impl.Node) bool { return !isNode(n) }
	return len(list) <= 60 && !slices.ContainsFunc(list, noNode) && startOf(list, len(list)-1) == 0
}

// holdsValid asks all functions of lists whether they take the list for valid, or do not.
func holdsValid(t *testing.T, list []impl.Node, want bool) {
	t.Helper()
	if got := impl.ExprOk(list); got != want {
		t.Fatalf("ExprOk(%v) = %v; want %v", list, got, want)
	}
	text, textOk := impl.FormatExpr(list)
	if textOk != want || (text != "") != want {
		t.Fatalf("FormatExpr(%v) = %q, %v", list, text, textOk)
	}
	if depth := impl.DepthOf(list); (depth > 0) != want || depth < 0 {
		t.Fatalf("DepthOf(%v) = %d", list, depth)
	}
	if want {
		return
	}
	if z, ok := impl.EvalExpr(list, make([]complex128, 10)); !isPlusZero(z) || ok {
		t.Fatalf("EvalExpr(%v) = %v, %v", list, z, ok)
	}
	if slots := impl.SlotsOf(list); slots != nil {
		t.Fatalf("SlotsOf(%v) = %v", list, slots)
	}
	if mirrored, ok := impl.MirrorExpr(list); mirrored != nil || ok {
		t.Fatalf("MirrorExpr(%v) = %v, %v", list, mirrored, ok)
	}
}

func TestExprOk(t *testing.T) {
	valid := []string{
		"0", "1i", "s0", "s9", "s0 neg", "s0 pos pos", "s0 conj re im", "s0 s1 add", "s0 s1 s2 add add", "s0 s1 add s2 add", "s0 neg s1 neg eq", "1 2 div neg 3i mul", "s0 s0 sub s0 s0 sub mul im",
	}
	for _, words := range valid {
		holdsValid(t, postfix(words), true)
	}
	invalid := []string{
		// No operand at the first place.
		"neg", "pos", "conj", "re", "im", "add", "eq", "neg s0", "add s0 s1", "eq s0",
		// One operand for an operator that has two, at the first place and later.
		"s0 add", "s0 mul s1", "s0 neg div", "s0 s1 add sub", "s0 s1 add neg eq", "s0 add s1 add", "s0 add s1 s2", "s0 s1 sub mul s2",
		// Two expressions, or three, beside each other.
		"s0 s1", "s0 s1 neg", "s0 neg s1", "s0 s1 s2 add", "s0 s1 add s2", "1 2 3", "s0 s1 add s2 s3 mul",
	}
	for _, words := range invalid {
		holdsValid(t, postfix(words), false)
	}
}

func TestExprOkAtTheLimits(t *testing.T) {
	for _, list := range [][]impl.Node{nil, {}, make([]impl.Node, 0, 3)} {
		holdsValid(t, list, false)
	}
	for _, n := range []int{1, 2, 59, 60, 61, 62, 120, 1000} {
		chain := append(postfix("s0"), slices.Repeat(postfix("neg"), n-1)...)
		holdsValid(t, chain, n <= 60)
	}
	for _, n := range []int{1, 2, 29, 30, 31, 32, 500} {
		left := append(postfix("s0"), slices.Repeat(postfix("1 add"), n-1)...)
		right := append(slices.Repeat(postfix("s9"), n), slices.Repeat(postfix("div"), n-1)...)
		for _, list := range [][]impl.Node{left, right} {
			holdsValid(t, list, len(list) <= 60)
			holdsValid(t, append(list, operatorNode(impl.ExReal)), len(list) < 60)
		}
	}
}

func TestExprOkAsksForEachNode(t *testing.T) {
	long := append(slices.Repeat(postfix("s1"), 30), slices.Repeat(postfix("mul"), 29)...)
	lists := [][]impl.Node{postfix("s0"), postfix("1 neg"), postfix("s0 2i add im"), append(long, operatorNode(impl.ExPlus))}
	for _, list := range lists {
		holdsValid(t, list, true)
		for place := range list {
			for _, bad := range invalidNodes() {
				faulty := slices.Clone(list)
				faulty[place] = bad
				holdsValid(t, faulty, false)
			}
		}
	}
	// A list that is too long, whatever stands in it.
	for _, n := range invalidNodes() {
		holdsValid(t, slices.Repeat([]impl.Node{n}, 61), false)
	}
}

// allLists calls look with each list of up to the length of these nodes.
func allLists(nodes []impl.Node, length int, look func(list []impl.Node)) {
	var grow func(list []impl.Node)
	grow = func(list []impl.Node) {
		look(list)
		if len(list) == length {
			return
		}
		for _, n := range nodes {
			grow(append(slices.Clip(list), n))
		}
	}
	grow(nil)
}

func TestExprOkOfAllShortLists(t *testing.T) {
	found := 0
	look := func(list []impl.Node) {
		want := isExpression(list)
		if want {
			found++
		}
		holdsValid(t, list, want)
	}
	allLists(postfix("s0 neg add"), 7, look)
	// The expressions of 1 to 7 nodes that can be made of one leaf and one operator of each number of operands.
	if want := 1 + 1 + 2 + 4 + 9 + 21 + 51; found != want {
		t.Errorf("%d lists are expressions; want %d", found, want)
	}
	allLists(postfix("1 s2 pos neg conj re im add sub mul div eq"), 3, look)
	allLists(append(postfix("s3 re sub"), impl.Node{}, slotNode(10)), 4, look)
}
