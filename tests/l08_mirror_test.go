package tests

import (
	"math/rand/v2"
	"slices"
	"testing"

	"loop.example/g03320/impl"
)

// mirroredTold returns the mirrored expression, or false, in other words than the program.
func mirroredTold(list []impl.Node) ([]impl.Node, bool) {
	var out []impl.Node
	for _, n := range list {
		out = append(out, n)
		if n.Kind == 1 && imag(n.Value) > 0 {
			out = append(out, operatorNode(4))
		}
		if n.Kind == 7 {
			return nil, false
		}
	}
	return out, len(out) <= 60
}

// holdsMirror holds MirrorExpr against mirroredTold, and reports whether there is a result.
func holdsMirror(t *testing.T, list []impl.Node) bool {
	t.Helper()
	want, wantOk := mirroredTold(list)
	if !wantOk {
		want = nil
	}
	got, ok := impl.MirrorExpr(list)
	if !sameNodes(got, want) || ok != wantOk || (got == nil) == ok {
		t.Fatalf("MirrorExpr(%v) = %v, %v; want %v, %v", list, got, ok, want, wantOk)
	}
	return ok
}

func TestMirrorExpr(t *testing.T) {
	cases := []struct{ words, want string }{
		{"0", "0"}, {"1", "1"}, {"0.75", "0.75"}, {"1i", "1i neg"}, {"0.75i", "0.75i neg"}, {"0i", "0"}, {"s0", "s0"}, {"s9 neg", "s9 neg"}, {"1i neg", "1i neg neg"}, {"1i pos conj re", "1i neg pos conj re"},
		{"1i 2i add", "1i neg 2i neg add"}, {"1 2i add", "1 2i neg add"}, {"1i 2 mul", "1i neg 2 mul"}, {"s0 neg s1 3i add mul s2 re eq", "s0 neg s1 3i neg add mul s2 re eq"}, {"1i 1i 1i sub div", "1i neg 1i neg 1i neg sub div"},
	}
	for _, c := range cases {
		if got, ok := impl.MirrorExpr(postfix(c.words)); !sameNodes(got, postfix(c.want)) || !ok {
			t.Errorf("MirrorExpr of %q = %v, %v; want %q", c.words, got, ok, c.want)
		}
	}
	for _, words := range []string{"s0 im", "1 im", "1i im", "s0 im neg", "s0 im s1 add", "s0 s1 im add", "s0 s1 add im", "s0 im im", "1i s0 im mul re", "s0 im s0 im eq"} {
		if got, ok := impl.MirrorExpr(postfix(words)); got != nil || ok {
			t.Errorf("MirrorExpr of %q = %v, %v", words, got, ok)
		}
	}
}

// TestMirrorExprAtMostNodes mirrors lists whose result has MaxNodes nodes, one less, and more.
func TestMirrorExprAtMostNodes(t *testing.T) {
	for n := 1; n <= impl.MaxNodes; n++ {
		chain := append(postfix("1i"), slices.Repeat(postfix("neg"), n-1)...)
		if got := holdsMirror(t, chain); got != (n < impl.MaxNodes) {
			t.Errorf("%d nodes with one imaginary number: MirrorExpr is %v", n, got)
		}
		plain := append(postfix("1"), slices.Repeat(postfix("conj"), n-1)...)
		if !holdsMirror(t, plain) {
			t.Errorf("%d nodes without an imaginary number have no mirrored expression", n)
		}
	}
	for leaves := 1; leaves <= 30; leaves++ {
		for others := range 5 {
			list := append(postfix("2i"), slices.Repeat(postfix("1i mul"), leaves-1)...)
			list = append(list, slices.Repeat(postfix("pos"), others)...)
			if got := holdsMirror(t, list); got != (3*leaves-1+others <= impl.MaxNodes) {
				t.Errorf("%d imaginary numbers and %d signs: MirrorExpr is %v", leaves, others, got)
			}
		}
	}
}

func TestMirrorExprOfManyExpressions(t *testing.T) {
	mirrored, none := 0, 0
	for _, e := range manyTrees(60) {
		if holdsMirror(t, e.list()) {
			mirrored++
		} else {
			none++
		}
	}
	if mirrored < 500 || none < 500 {
		t.Errorf("%d expressions were mirrored and %d were not", mirrored, none)
	}
}

// withoutImag returns an expression with ExReal in place of each ExImag.
func withoutImag(list []impl.Node) []impl.Node {
	out := slices.Clone(list)
	for i := range out {
		if out[i].Kind == impl.ExImag {
			out[i].Kind = impl.ExReal
		}
	}
	return out
}

// TestMirroredExpressionsHaveTheConjugate is the third sentence of P8.
func TestMirroredExpressionsHaveTheConjugate(t *testing.T) {
	source := rand.New(rand.NewPCG(8, 9))
	values, none := 0, 0
	for _, e := range manyTrees(60) {
		list := withoutImag(e.list())
		mirrored, can := impl.MirrorExpr(list)
		if !can {
			continue
		}
		for range 4 {
			slots := someSlots(source)
			var conjugates []complex128
			for _, z := range slots {
				conjugates = append(conjugates, impl.Conjugate(z))
			}
			want, wantOk := impl.EvalExpr(list, slots)
			got, ok := impl.EvalExpr(mirrored, conjugates)
			if got != impl.Conjugate(want) || ok != wantOk {
				t.Fatalf("%v of %v is %v, %v; mirrored, of the conjugates, %v, %v", list, slots, want, wantOk, got, ok)
			}
			if ok {
				values++
			} else {
				none++
			}
		}
	}
	if values < 2000 || none < 2000 {
		t.Errorf("%d values and %d that are none", values, none)
	}
}

func TestSlotsOf(t *testing.T) {
	cases := []struct {
		words string
		want  []int
	}{
		{"0", nil}, {"1i neg", nil}, {"1 2 add", nil}, {"s0", []int{0}}, {"s9", []int{9}}, {"s3 conj", []int{3}}, {"s0 s0 add", []int{0}}, {"s1 s0 add", []int{0, 1}}, {"s9 s4 s7 sub sub", []int{4, 7, 9}}, {"s5 s2 s5 s2 s5 eq mul div add", []int{2, 5}}, {"1 s8 2 s6 mul mul mul", []int{6, 8}},
		{"s9 s8 s7 s6 s5 s4 s3 s2 s1 s0 add add add add add add add add add", []int{0, 1, 2, 3, 4, 5, 6, 7, 8, 9}}, {"s0 s1 s2 s3 s4 s5 s6 s7 s8 s9 s0 add add add add add add add add add add", []int{0, 1, 2, 3, 4, 5, 6, 7, 8, 9}},
	}
	for _, c := range cases {
		if got := impl.SlotsOf(postfix(c.words)); !slices.Equal(got, c.want) {
			t.Errorf("SlotsOf %q = %v; want %v", c.words, got, c.want)
		}
	}
	for _, e := range manyTrees(30) {
		var want []int
		for _, n := range e.list() {
			if n.Kind == 2 {
				want = append(want, n.Slot)
			}
		}
		slices.Sort(want)
		want = slices.Compact(want)
		if got := impl.SlotsOf(e.list()); !slices.Equal(got, want) {
			t.Fatalf("SlotsOf(%v) = %v; want %v", e.list(), got, want)
		}
	}
}

// depthTold tells the depth from the last node on: the operands stand behind each other.
func depthTold(e tree) int {
	depth := 1
	for i, operand := range e.below {
		depth = max(depth, i+depthTold(operand))
	}
	return depth
}

func TestDepthOf(t *testing.T) {
	cases := []struct {
		words string
		want  int
	}{
		{"0", 1}, {"s0", 1}, {"s0 neg", 1}, {"s0 neg neg conj re im", 1}, {"s0 s1 add", 2}, {"s0 neg s1 neg add", 2}, {"s0 s1 add s2 add", 2}, {"s0 s1 s2 add add", 3}, {"s0 s1 add s2 s3 add add", 3}, {"s0 s1 s2 add s3 add add", 3}, {"s0 s1 s2 s3 eq eq eq", 4}, {"s0 s1 s2 add add s3 add", 3}, {"s0 neg s1 3i add mul s2 re eq", 3},
	}
	for _, c := range cases {
		if got := impl.DepthOf(postfix(c.words)); got != c.want {
			t.Errorf("DepthOf %q = %d; want %d", c.words, got, c.want)
		}
	}
	for n := 1; n <= 30; n++ {
		left := append(postfix("s0"), slices.Repeat(postfix("s1 sub"), n-1)...)
		right := append(slices.Repeat(postfix("s1"), n), slices.Repeat(postfix("sub"), n-1)...)
		if gotLeft, gotRight := impl.DepthOf(left), impl.DepthOf(right); gotLeft != min(n, 2) || gotRight != n {
			t.Errorf("chains of %d slots have the depths %d and %d", n, gotLeft, gotRight)
		}
	}
	for _, e := range manyTrees(30) {
		if got, want := impl.DepthOf(e.list()), depthTold(e); got != want {
			t.Fatalf("DepthOf(%v) = %d; want %d", e.list(), got, want)
		}
	}
}

// TestExpressionsAreNotChanged looks at the arguments, and at the room behind them, after all calls.
func TestExpressionsAreNotChanged(t *testing.T) {
	for _, words := range []string{"s0 1i mul s1 s2 conj re add div", "1i", "s2 neg", "s0 s0 eq"} {
		room := append(postfix(words), postfix("s9 neg add 1i")...)
		slots := []complex128{complex(1, 2), complex(3, -4), 5, 7, 8, 9}
		keptRoom, keptSlots := slices.Clone(room), slices.Clone(slots)
		list := room[:len(room)-4]
		for range 2 {
			impl.ExprOk(list)
			impl.FormatExpr(list)
			impl.EvalExpr(list, slots[:3])
			impl.DepthOf(list)
			clear(impl.SlotsOf(list))
			mirrored, _ := impl.MirrorExpr(list)
			clear(mirrored)
			for _, n := range room {
				impl.NodeOk(n)
			}
		}
		if !sameNodes(room, keptRoom) || !slices.EqualFunc(slots, keptSlots, sameWide) {
			t.Errorf("%v became %v, and %v became %v", keptRoom, room, keptSlots, slots)
		}
	}
}

// TestResultsOfExpressionsAreNew writes into results, and asks again.
func TestResultsOfExpressionsAreNew(t *testing.T) {
	const text = "-s0 * (s1 + 3p0i) = re(s2)"
	want := postfix("s0 neg s1 3i add mul s2 re eq")
	list, _ := impl.ParseExpr(text)
	clear(list[:cap(list)])
	holdsRead(t, text, want)
	for _, words := range []string{"s0", "s1 neg", "s2 s1 add"} {
		// Nothing is mirrored here: the result is as the list is, and still a new one.
		kept := postfix(words)
		first, _ := impl.MirrorExpr(kept)
		clear(first[:cap(first)])
		second, _ := impl.MirrorExpr(kept)
		if !sameNodes(kept, postfix(words)) || !sameNodes(second, kept) {
			t.Errorf("%q became %v, mirrored %v", words, kept, second)
		}
	}
	slots := impl.SlotsOf(want)
	clear(slots[:cap(slots)])
	if got := impl.SlotsOf(want); !slices.Equal(got, []int{0, 1, 2}) {
		t.Errorf("the slots are %v", got)
	}
}
