package tests

import (
	"fmt"
	"math"
	"math/rand/v2"
	"strings"
	"testing"

	"loop.example/g03320/impl"
)

// tree is an expression: its last node, and the operands of that.
type tree struct {
	node  impl.Node
	below []tree
}

func (e tree) list() []impl.Node {
	var out []impl.Node
	for _, operand := range e.below {
		out = append(out, operand.list()...)
	}
	return append(out, e.node)
}

// someLeaf returns a slot, or a number of any size.
func someLeaf(source *rand.Rand) impl.Node {
	small := []float64{0, 1, 2, 0.5, 3, 0.75}
	amount := small[source.IntN(len(small))]
	if source.IntN(4) == 0 {
		amount = size(finiteSingle(source))
	}
	switch source.IntN(4) {
	case 0:
		return numberNode(complex(amount, 0))
	case 1:
		return numberNode(complex(0, amount))
	}
	return slotNode(source.IntN(10))
}

// someTree returns an expression of n nodes.
func someTree(source *rand.Rand, n int) tree {
	if n == 1 {
		return tree{node: someLeaf(source)}
	}
	if n == 2 || source.IntN(3) == 0 {
		kind := impl.ExPlus + source.IntN(5)
		return tree{node: operatorNode(kind), below: []tree{someTree(source, n-1)}}
	}
	kind, first := impl.ExAdd+source.IntN(5), 1+source.IntN(n-2)
	return tree{node: operatorNode(kind), below: []tree{someTree(source, first), someTree(source, n-1-first)}}
}

// manyTrees returns expressions of all lengths, so many of each.
func manyTrees(rounds int) []tree {
	source := rand.New(rand.NewPCG(8, 1))
	var out []tree
	for n := 1; n <= impl.MaxNodes; n++ {
		for range rounds {
			out = append(out, someTree(source, n))
		}
	}
	return out
}

// symbols are the texts of the kinds from ExPlus to ExEqual, in order.
func symbols() []string {
	return []string{"+", "-", "conj", "re", "im", " + ", " - ", " * ", " / ", " = "}
}

// enclosing tells, for the operators from ExPlus to ExEqual, in order, which operators stand in
// parentheses as their first operand, and which as their second one.
func enclosing() [][2]string {
	return [][2]string{
		{"+ - * / ="}, {"+ - * / ="}, {}, {}, {},
		{"=", "+ - ="}, {"=", "+ - ="}, {"+ - =", "+ - * / ="}, {"+ - =", "+ - * / ="}, {"", "="},
	}
}

// isEnclosed reports whether an operand of the kind has to stand in parentheses, at the place, as
// enclosing tells.
func isEnclosed(kind int, place int, operand int) bool {
	symbol := ""
	if operand >= impl.ExAdd {
		symbol = symbols()[operand-impl.ExPlus]
	}
	return symbol != "" && strings.Contains(" "+enclosing()[kind-impl.ExPlus][place]+" ", symbol)
}

// amountTold writes a single as the program does, from the text of the standard library.
func amountTold(x float64) string {
	if x == 0 {
		return "0"
	}
	var mantissa, exponent int
	fmt.Sscanf(fmt.Sprintf("%b", float32(x)), "%dp%d", &mantissa, &exponent)
	for mantissa%2 == 0 {
		mantissa, exponent = mantissa/2, exponent+1
	}
	return fmt.Sprintf("%dp%d", mantissa, exponent)
}

func leafTold(n impl.Node) string {
	switch {
	case n.Kind == impl.ExSlot:
		return fmt.Sprintf("s%d", n.Slot)
	case imag(n.Value) != 0:
		return amountTold(imag(n.Value)) + "i"
	}
	return amountTold(real(n.Value))
}

// partsTold returns the parts of the text of an expression, in order. So many pairs of
// parentheses as extra tells stand around each part in addition.
func partsTold(e tree, extra func() int) []string {
	operand := func(place int) []string {
		parts := partsTold(e.below[place], extra)
		if isEnclosed(e.node.Kind, place, e.below[place].node.Kind) {
			return inPairs(parts, 1)
		}
		return parts
	}
	var parts []string
	switch kind := e.node.Kind; {
	case kind <= impl.ExSlot:
		parts = []string{leafTold(e.node)}
	case kind <= impl.ExMinus:
		parts = append([]string{symbols()[kind-impl.ExPlus]}, operand(0)...)
	case kind <= impl.ExImag:
		parts = append([]string{symbols()[kind-impl.ExPlus]}, inPairs(operand(0), 1)...)
	default:
		parts = append(append(operand(0), symbols()[kind-impl.ExPlus]), operand(1)...)
	}
	return inPairs(parts, extra())
}

// inPairs returns the parts in n pairs of parentheses.
func inPairs(parts []string, n int) []string {
	for range n {
		parts = append(append([]string{"("}, parts...), ")")
	}
	return parts
}

// textTold returns the text of an expression, in other words than the program.
func textTold(e tree) string {
	return strings.Join(partsTold(e, func() int { return 0 }), "")
}

// holdsText asks for the text, and true.
func holdsText(t *testing.T, list []impl.Node, want string) {
	t.Helper()
	if got, ok := impl.FormatExpr(list); got != want || !ok {
		t.Fatalf("FormatExpr(%v) = %q, %v; want %q", list, got, ok, want)
	}
}

func TestFormatExprOfNumbersAndSlots(t *testing.T) {
	cases := []struct {
		amount float64
		want   string
	}{
		{1, "1p0"}, {3, "3p0"}, {0.75, "3p-2"}, {6, "3p1"}, {0x1p127, "1p127"}, {0x1p-149, "1p-149"}, {0x1.fffffep127, "16777215p104"}, {0x1.fffffcp-126, "8388607p-148"}, {0x1.fffffep-126, "16777215p-149"},
		{0x1.000002p0, "8388609p-23"}, {16777215, "16777215p0"}, {16777216, "1p24"}, {float64(float32(0.1)), "13421773p-27"}, {100, "25p2"}, {1000000000, "1953125p9"},
	}
	for _, c := range cases {
		holdsText(t, []impl.Node{numberNode(complex(c.amount, 0))}, c.want)
		holdsText(t, []impl.Node{numberNode(complex(0, c.amount))}, c.want+"i")
		holdsText(t, []impl.Node{numberNode(complex(0, c.amount)), operatorNode(impl.ExMinus)}, "-"+c.want+"i")
	}
	holdsText(t, postfix("0"), "0")
	holdsText(t, postfix("0i"), "0")
	for place := range 10 {
		holdsText(t, []impl.Node{slotNode(place)}, "s"+string(rune('0'+place)))
	}
}

func TestFormatExprOfOperators(t *testing.T) {
	cases := []struct{ words, want string }{
		{"s1 pos", "+s1"}, {"s1 neg", "-s1"}, {"s1 conj", "conj(s1)"}, {"s1 re", "re(s1)"}, {"s1 im", "im(s1)"},
		{"s1 s2 add", "s1 + s2"}, {"s1 s2 sub", "s1 - s2"}, {"s1 s2 mul", "s1 * s2"}, {"s1 s2 div", "s1 / s2"}, {"s1 s2 eq", "s1 = s2"},
		{"s0 neg s1 3i add mul s2 re eq", "-s0 * (s1 + 3p0i) = re(s2)"}, {"s0 s1 neg sub", "s0 - -s1"}, {"s0 pos neg pos s1 neg add", "+-+s0 + -s1"}, {"0 neg 0 pos div", "-0 / +0"},
		{"s0 s1 s2 sub sub", "s0 - (s1 - s2)"}, {"s0 s1 sub s2 sub", "s0 - s1 - s2"}, {"s0 s1 s2 s3 div div div", "s0 / (s1 / (s2 / s3))"}, {"s0 s1 eq s2 eq", "s0 = s1 = s2"}, {"s0 s1 s2 eq eq", "s0 = (s1 = s2)"},
		{"s0 s1 mul neg", "-(s0 * s1)"}, {"s0 neg s1 mul", "-s0 * s1"}, {"s0 s1 add conj neg", "-conj(s0 + s1)"}, {"s0 s1 eq re im", "im(re(s0 = s1))"}, {"s0 s1 add neg neg", "--(s0 + s1)"}, {"s0 s1 add pos s2 mul", "+(s0 + s1) * s2"},
		{"s0 s1 mul s2 s3 mul add", "s0 * s1 + s2 * s3"}, {"s0 s1 add s2 s3 add mul", "(s0 + s1) * (s2 + s3)"}, {"s0 s1 add s2 s3 add eq", "s0 + s1 = s2 + s3"}, {"s0 s1 eq s2 s3 eq add", "(s0 = s1) + (s2 = s3)"}, {"s0 s1 eq s2 s3 eq eq", "s0 = s1 = (s2 = s3)"},
	}
	for _, c := range cases {
		holdsText(t, postfix(c.words), c.want)
	}
}

// TestParenthesesOfEachPair looks at each operand of each operator, at each place.
func TestParenthesesOfEachPair(t *testing.T) {
	operands := []struct{ words, text string }{
		{"1", "1p0"}, {"2i", "1p1i"}, {"s3", "s3"}, {"s3 pos", "+s3"}, {"s3 neg", "-s3"}, {"s3 conj", "conj(s3)"}, {"s3 re", "re(s3)"}, {"s3 im", "im(s3)"},
		{"s3 s4 add", "s3 + s4"}, {"s3 s4 sub", "s3 - s4"}, {"s3 s4 mul", "s3 * s4"}, {"s3 s4 div", "s3 / s4"}, {"s3 s4 eq", "s3 = s4"},
	}
	for kind, name := range operatorNames() {
		symbol, of := symbols()[kind], enclosing()[kind]
		for i, operand := range operands {
			first, second := operand.text, operand.text
			// The last five are the operators with two operands, whose signs are those that are told.
			if i >= 8 && strings.Contains(of[0], operand.text[3:4]) {
				first = "(" + first + ")"
			}
			if i >= 8 && strings.Contains(of[1], operand.text[3:4]) {
				second = "(" + second + ")"
			}
			switch {
			case kind < 2:
				holdsText(t, postfix(operand.words+" "+name), symbol+first)
			case kind < 5:
				holdsText(t, postfix(operand.words+" "+name), symbol+"("+operand.text+")")
			default:
				holdsText(t, postfix(operand.words+" s0 "+name), first+symbol+"s0")
				holdsText(t, postfix("s0 "+operand.words+" "+name), "s0"+symbol+second)
			}
		}
	}
}

func TestFormatExprOfManyExpressions(t *testing.T) {
	for _, e := range manyTrees(60) {
		holdsText(t, e.list(), textTold(e))
	}
}

// pairs returns, for each "(" of a text that is no word's, its place and that of its ")".
func pairs(text string) [][2]int {
	var open []int
	var out [][2]int
	for i := range len(text) {
		switch text[i] {
		case '(':
			open = append(open, i)
		case ')':
			start := open[len(open)-1]
			open = open[:len(open)-1]
			if start == 0 || text[start-1] < 'a' {
				out = append(out, [2]int{start, i})
			}
		}
	}
	return out
}

// TestNoParenthesesTooMany leaves out each pair in turn: the text has to become that of another
// expression.
func TestNoParenthesesTooMany(t *testing.T) {
	count := 0
	for _, e := range manyTrees(12) {
		text, _ := impl.FormatExpr(e.list())
		for _, pair := range pairs(text) {
			without := text[:pair[0]] + text[pair[0]+1:pair[1]] + text[pair[1]+1:]
			if list, ok := impl.ParseExpr(without); !ok || sameNodes(list, e.list()) {
				t.Fatalf("%q and %q are read alike, or the second is not read: %v", text, without, ok)
			}
			count++
		}
	}
	if count < 1000 {
		t.Errorf("%d pairs were left out", count)
	}
}

// longestTexts returns, for each number of nodes, the greatest length of a text whose last node
// does not have two operands, and of one whose last node has. Nothing else of an operand counts
// for the text around it, if all operands that may stand in parentheses do.
func longestTexts() [impl.MaxNodes + 1][2]int {
	const none = math.MinInt / 4
	longest := [impl.MaxNodes + 1][2]int{{none, none}}
	longest[1] = [2]int{len("16777215p-149i"), none}
	for n := 2; n <= impl.MaxNodes; n++ {
		below := longest[n-1]
		longest[n][0] = max(len("conj()")+max(below[0], below[1]), len("-")+below[0], len("-()")+below[1])
		longest[n][1] = none
		for first := 1; first < n-1; first++ {
			a, b := longest[first], longest[n-1-first]
			longest[n][1] = max(longest[n][1], len(" * ")+max(a[0], a[1]+len("()"))+max(b[0], b[1]+len("()")))
		}
	}
	return longest
}

// TestLongestTexts tells how long texts may become: never as long as MaxLineLen (600), so that no
// valid expression is refused.
func TestLongestTexts(t *testing.T) {
	const longNumber = "16777215p-149i"
	leaf := numberNode(complex(0, 0x1.fffffep-126))
	source := rand.New(rand.NewPCG(8, 2))
	longest := longestTexts()
	for n := 1; n <= impl.MaxNodes; n++ {
		for range 20 {
			list := someTree(source, n).list()
			if text, ok := impl.FormatExpr(list); !ok || len(text) > max(longest[n][0], longest[n][1]) {
				t.Fatalf("%d nodes have the text %q, %v", n, text, ok)
			}
		}
	}
	list, want := []impl.Node{leaf, operatorNode(impl.ExConj)}, "conj("+longNumber+")"
	for i := range 29 {
		list = append(append([]impl.Node{leaf}, list...), operatorNode(impl.ExEqual))
		if i > 0 {
			want = "(" + want + ")"
		}
		want = longNumber + " = " + want
	}
	holdsText(t, list, want)
	most := max(longest[impl.MaxNodes][0], longest[impl.MaxNodes][1])
	if len(list) != impl.MaxNodes || len(want) != most || most != 569 {
		t.Errorf("%d nodes have a text of %d bytes; the longest one has %d", len(list), len(want), most)
	}
}
