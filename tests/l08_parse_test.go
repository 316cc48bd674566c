package tests

import (
	"math"
	"math/big"
	"math/rand/v2"
	"regexp"
	"slices"
	"strconv"
	"strings"
	"testing"

	"loop.example/g03320/impl"
)

// holdsRead asks for the expression, in each value and sign.
func holdsRead(t *testing.T, text string, want []impl.Node) {
	t.Helper()
	if got, ok := impl.ParseExpr(text); !sameNodes(got, want) || !ok {
		t.Fatalf("ParseExpr(%q) = %v, %v; want %v", text, got, ok, want)
	}
}

// holdsUnread asks for nil and false.
func holdsUnread(t *testing.T, text string) {
	t.Helper()
	if got, ok := impl.ParseExpr(text); got != nil || ok {
		t.Fatalf("ParseExpr(%q) = %v, %v", text, got, ok)
	}
}

func TestParseExprOfOperators(t *testing.T) {
	cases := []struct{ text, want string }{
		{"s0", "s0"}, {"s9", "s9"}, {"+s0", "s0 pos"}, {"-s0", "s0 neg"}, {"conj(s0)", "s0 conj"}, {"re(s0)", "s0 re"}, {"im(s0)", "s0 im"}, {"(s0)", "s0"}, {"((s0))", "s0"},
		{"s0+s1", "s0 s1 add"}, {"s0-s1", "s0 s1 sub"}, {"s0*s1", "s0 s1 mul"}, {"s0/s1", "s0 s1 div"}, {"s0=s1", "s0 s1 eq"},
		// Of one strength, from the left.
		{"s0+s1+s2", "s0 s1 add s2 add"}, {"s0-s1-s2", "s0 s1 sub s2 sub"}, {"s0-s1+s2-s3", "s0 s1 sub s2 add s3 sub"}, {"s0*s1*s2", "s0 s1 mul s2 mul"}, {"s0/s1*s2/s3", "s0 s1 div s2 mul s3 div"}, {"s0=s1=s2=s3", "s0 s1 eq s2 eq s3 eq"},
		// Of different strengths.
		{"s0+s1*s2", "s0 s1 s2 mul add"}, {"s0*s1+s2", "s0 s1 mul s2 add"}, {"s0/s1-s2/s3", "s0 s1 div s2 s3 div sub"}, {"s0-s1/s2-s3", "s0 s1 s2 div sub s3 sub"}, {"s0=s1+s2*s3", "s0 s1 s2 s3 mul add eq"}, {"s0*s1+s2=s3", "s0 s1 mul s2 add s3 eq"}, {"s0+s1=s2-s3=s4", "s0 s1 add s2 s3 sub eq s4 eq"},
		{"-s0*s1", "s0 neg s1 mul"}, {"-s0+s1", "s0 neg s1 add"}, {"-s0=-s1", "s0 neg s1 neg eq"}, {"s0*-s1", "s0 s1 neg mul"}, {"s0/+s1/s2", "s0 s1 pos div s2 div"}, {"-s0*-s1--s2", "s0 neg s1 neg mul s2 neg sub"},
		{"s0 - -s1", "s0 s1 neg sub"}, {"s0++s1", "s0 s1 pos add"}, {"s0+-s1", "s0 s1 neg add"}, {"s0-+-s1", "s0 s1 neg pos sub"}, {"--s0", "s0 neg neg"}, {"-+-s0", "s0 neg pos neg"}, {"+++s0", "s0 pos pos pos"},
		// In parentheses.
		{"(s0+s1)*s2", "s0 s1 add s2 mul"}, {"s0*(s1+s2)", "s0 s1 s2 add mul"}, {"s0-(s1-s2)", "s0 s1 s2 sub sub"}, {"(s0-s1)-s2", "s0 s1 sub s2 sub"}, {"-(s0*s1)", "s0 s1 mul neg"}, {"(-s0)*s1", "s0 neg s1 mul"}, {"s0=(s1=s2)", "s0 s1 s2 eq eq"}, {"(s0=s1)*s2", "s0 s1 eq s2 mul"}, {"-(-(-(s0)))", "s0 neg neg neg"},
		{"conj(re(im(s0)))", "s0 im re conj"}, {"conj(s0=s1)", "s0 s1 eq conj"}, {"re((s0))", "s0 re"}, {"-conj(s0)*im(s1)", "s0 conj neg s1 im mul"}, {"re(-s0)", "s0 neg re"}, {"im(s0)/(re(s1))", "s0 im s1 re div"},
		{"-s0 * (s1 + 3p0i) = re(s2)", "s0 neg s1 3i add mul s2 re eq"},
	}
	for _, c := range cases {
		holdsRead(t, c.text, postfix(c.want))
	}
}

func TestParseExprOfNumbers(t *testing.T) {
	cases := []struct {
		text   string
		amount float64
	}{
		{"1p0", 1}, {"3p0", 3}, {"3p-2", 0.75}, {"3p1", 6}, {"1p127", 0x1p127}, {"1p-149", 0x1p-149}, {"16777215p104", 0x1.fffffep127}, {"16777215p-149", 0x1.fffffep-126}, {"16777215p0", 16777215}, {"1p10", 1024}, {"8388609p-23", 0x1.000002p0}, {"11p0", 11}, {"101p-9", 101 * 0x1p-9},
	}
	for _, c := range cases {
		holdsRead(t, c.text, []impl.Node{numberNode(complex(c.amount, 0))})
		holdsRead(t, c.text+"i", []impl.Node{numberNode(complex(0, c.amount))})
		holdsRead(t, " "+c.text+"i ", []impl.Node{numberNode(complex(0, c.amount))})
		holdsRead(t, "-"+c.text, []impl.Node{numberNode(complex(c.amount, 0)), operatorNode(impl.ExMinus)})
		holdsRead(t, c.text+"-"+c.text+"i", []impl.Node{numberNode(complex(c.amount, 0)), numberNode(complex(0, c.amount)), operatorNode(impl.ExSub)})
	}
	holdsRead(t, "0", postfix("0"))
	holdsRead(t, "-0", postfix("0 neg"))
	holdsRead(t, "+0-0", postfix("0 pos 0 sub"))
	holdsRead(t, "0-1p0", postfix("0 1 sub"))
	holdsRead(t, "(0)*1p0i", postfix("0 1i mul"))
	holdsRead(t, "1p0-1p-1", postfix("1 0.5 sub"))
	holdsRead(t, "1p-1-1p-1", postfix("0.5 0.5 sub"))
	holdsRead(t, "1p0--1p-1", postfix("1 0.5 neg sub"))
}

func TestParseExprRefusesOtherNumbers(t *testing.T) {
	texts := []string{
		// An even mantissa, a leading 0, no digits, too great, or not a single.
		"2p0", "6p0", "16777214p0", "16777216p0", "0p0", "0p1", "00", "01p0", "03p0", "1p00", "1p01", "1p-0", "1p-01", "-00", "000",
		"1", "3", "16777215", "10", "1p", "1p-", "p0", "p", "p-1", "3p-", "1pp0", "1p--1", "1p+1", "1p0p0", "0p", "0p-", "-p1",
		"1p128", "1p-150", "3p-150", "3p127", "16777215p105", "16777217p0", "33554433p0", "99999999999999999999p0", "1p99999999999999999999", "1p-99999999999999999999", "18446744073709551617p0", "1p18446744073709551616", "1p4294967296", "1p256",
		// Other notations.
		"1.5", "0.5", ".5", "1e3", "0x1p0", "1P0", "1p0.0", "1_1p0", "inf", "nan", "+inf", "-inf", "+nan", "infi", "1p0j", "1p0I",
		// An "i" behind 0, behind a space, alone, or behind something else.
		"0i", "-0i", "(0)i", "1p0 i", "3p0 i", "i", "-i", " i ", "1p0ii", "(1p0)i", "s0i", "1p0i1", "1p0i0", "1p0i p", "2p0i", "1pi", "1i", "3i", "01p0i", "ip0", "1p0i(s0)", "1p0im(s0)", "0im(s0)",
		// Spaces inside.
		"1 p0", "1p 0", "1p- 1", "1p -1", "1 1p0", "1p1 1", "16777 215p0", "0 0", "1p0 p0",
	}
	for _, text := range texts {
		holdsUnread(t, text)
		holdsUnread(t, "("+text+")")
		holdsUnread(t, "s0 + "+text)
		holdsUnread(t, text+" * s1")
	}
}

func TestParseExprRefusesOtherForms(t *testing.T) {
	texts := []string{
		"", " ", "      ", "()", "( )", "-()", "conj()", "re( )", "()s0", "s0()", "s0+()", "(())",
		// A parenthesis that is not closed, or not opened.
		"(", ")", "(s0", "s0)", "((s0)", "(s0))", ")s0(", "(s0+s1", "s0+s1)", "s0*(s1", "conj(s0", "conj s0)", "re(s0))", "im((s0)", "s0)(s1", "(s0+(s1)", "[s0]", "{s0}", "(s0]",
		// A sign or an operator at the end, or at the start.
		"+", "-", "*", "/", "=", "s0+", "s0-", "s0*", "s0/", "s0=", "s0 + -", "s0*-", "(s0+)", "--", "conj(-)", "*s0", "/s0", "=s0", "(*s0)", "re(=s0)", "-*s0", "-=s0",
		"s0**s1", "s0*/s1", "s0==s1", "s0+*s1", "s0=*s1", "s0-/s1", "s0+=s1", "s0*=s1", "s0//s1", "s0=/s1", "s0 ** s1", "s0*=-s1",
		// Two operands beside each other.
		"s0s1", "s0 s1", "s0(s1)", "(s0)s1", "(s0)(s1)", "s0 1p0", "1p0 s0", "1p0s0", "1p0 1p0", "re(s0)im(s0)", "s0conj(s1)", "s0 re(s1)", "1p0(s0)", "0 s0", "0s0",
		// Slots without a digit, with two, or with something else.
		"s", "-s", "(s)", "s s0", "s10", "s00", "s01", "s99", "s0 0", "s+1", "s-1", "s1p0", "s(0)", "s0.", "sa", "ss0", "s:", "s/", "s 0", "s  9", "S0", "S", "x0", "t0", "0s",
		// Words in other letters, or without parentheses.
		"conj", "re", "im", "conj s0", "re s0", "im s0", "conjs0", "res0", "ims0", "conj0", "re1p0", "Conj(s0)", "CONJ(s0)", "Re(s0)", "RE(s0)", "rE(s0)", "Im(s0)", "iM(s0)", "con(s0)", "conjj(s0)", "conjre(s0)", "conj re(s0)", "real(s0)", "imag(s0)", "ree(s0)", "r(s0)", "e(s0)", "c(s0)", "abs(s0)", "conj((s0)", "conj[s0]", "re,(s0)", "re(s0,s1)", "conj-(s0)", "(conj)(s0)",
		// Spaces inside a word, or a slot.
		"con j(s0)", "c onj(s0)", "r e(s0)", "i m(s0)", "re(s 0)",
		// Other white space, and other bytes.
		"\ts0", "s0\t", "s0\n", "\ns0", "s0\r", "s0 +\ts1", "s0\v+s1", "s0\f", "s0\u00a0", "\u00a0s0", "s0\u2003+ s1", "\u3000s0", "s0\x00", "\x00", "s0;", "s0,s1", "s0^s1", "s0%s1", "s0!s1", "s0<s1", "s0>s1", "~s0", "!s0", "$s0", "s0 # s1", "s0 − s1", "s0×s1", "s\u0660", "s\uff11", "１p0", "\xff", "s0\xff", "s\xb0",
	}
	for _, text := range texts {
		holdsUnread(t, text)
	}
}

// TestSpacesBetweenAllParts writes each expression with spaces at each place in turn, and at all.
func TestSpacesBetweenAllParts(t *testing.T) {
	cases := []struct {
		parts []string
		want  string
	}{
		{[]string{"s0"}, "s0"}, {[]string{"3p-2i"}, "0.75i"}, {[]string{"0"}, "0"}, {[]string{"-", "s0"}, "s0 neg"}, {[]string{"+", "-", "0"}, "0 neg pos"}, {[]string{"conj", "(", "s0", ")"}, "s0 conj"}, {[]string{"re", "(", "im", "(", "1p0", ")", ")"}, "1 im re"}, {[]string{"(", "(", "s0", ")", ")"}, "s0"},
		{[]string{"s0", "+", "s1", "-", "-", "s2"}, "s0 s1 add s2 neg sub"}, {[]string{"1p0", "*", "3p0i", "/", "(", "s1", "=", "0", ")"}, "1 3i mul s1 0 eq div"}, {[]string{"s0", "=", "s1", "=", "-", "1p-1"}, "s0 s1 eq 0.5 neg eq"},
	}
	for _, c := range cases {
		for place := range len(c.parts) + 1 {
			for _, spaces := range []string{"", " ", "  ", strings.Repeat(" ", 500)} {
				first, second := strings.Join(c.parts[:place], ""), strings.Join(c.parts[place:], "")
				holdsRead(t, first+spaces+second, postfix(c.want))
			}
		}
		for _, spaces := range []string{" ", "   "} {
			holdsRead(t, spaces+strings.Join(c.parts, spaces)+spaces, postfix(c.want))
		}
	}
}

func TestParseExprAtTheLongestText(t *testing.T) {
	cases := []struct{ first, middle, last, want string }{
		{"", "s0", "", "s0"}, {"s0", "", "+ s1", "s0 s1 add"}, {"conj(s0", "", ")", "s0 conj"}, {"-", "", "3p0i", "3i neg"}, {"(s0)", "", "", "s0"}, {"", "", "(0)", "0"},
	}
	for _, c := range cases {
		length := len(c.first + c.middle + c.last)
		for _, spare := range []int{0, 1, 2, 1000} {
			text := c.first + strings.Repeat(" ", impl.MaxLineLen-length+spare) + c.middle + c.last
			if spare > 0 {
				holdsUnread(t, text)
				continue
			}
			holdsRead(t, text, postfix(c.want))
		}
	}
	for _, n := range []int{1, 100, 298, 299, 300, 301, 5000} {
		text := strings.Repeat("(", n) + "s7" + strings.Repeat(")", n)
		if len(text) > impl.MaxLineLen {
			holdsUnread(t, text)
			continue
		}
		holdsRead(t, text, postfix("s7"))
		holdsUnread(t, text[1:])
		holdsUnread(t, text[:len(text)-1])
	}
	for _, part := range []string{"(", ")", "-", "+", "*", "s0", " ", "conj(", "re", "1p0", "9", "i", "0", "=", "s0+", "-("} {
		for _, n := range []int{100, impl.MaxLineLen / len(part), impl.MaxLineLen/len(part) + 1, 5000} {
			holdsUnread(t, strings.Repeat(part, n))
		}
	}
}

func TestParseExprAtMostNodes(t *testing.T) {
	for n := 55; n <= 65; n++ {
		signs, signed := strings.Repeat("-", n-1)+"s0", append(postfix("s0"), slices.Repeat(postfix("neg"), n-1)...)
		texts := map[string][]impl.Node{signs: signed, "(" + signs + ")": signed}
		if n%2 == 1 {
			operators := n / 2
			texts["s0"+strings.Repeat("+s1", operators)] = append(postfix("s0"), slices.Repeat(postfix("s1 add"), operators)...)
			texts[strings.Repeat("0=(", operators)+"0"+strings.Repeat(")", operators)] = append(slices.Repeat(postfix("0"), operators+1), slices.Repeat(postfix("eq"), operators)...)
			texts["1p0i"+strings.Repeat("*1p0i", operators)] = append(postfix("1i"), slices.Repeat(postfix("1i mul"), operators)...)
		} else {
			texts["re(s0"+strings.Repeat("/s1", n/2-1)+")"] = append(append(postfix("s0"), slices.Repeat(postfix("s1 div"), n/2-1)...), postfix("re")...)
		}
		for text, want := range texts {
			if n > impl.MaxNodes {
				holdsUnread(t, text)
				continue
			}
			holdsRead(t, text, want)
		}
	}
	// Too many nodes, but for the end not of the form.
	holdsUnread(t, strings.Repeat("-", 60)+"s0)")
}

// onePart is a part of a text, behind any spaces.
var onePart = regexp.MustCompile(`^ *([0-9]+(?:p-?[0-9]+)?i?|s[0-9]|conj|re|im|[-+*/=()])`)

// splitTold returns the parts of a text, and whether it consists of parts.
func splitTold(text string) ([]string, bool) {
	var parts []string
	for text != "" && strings.Trim(text, " ") != "" {
		found := onePart.FindStringSubmatch(text)
		if found == nil {
			return nil, false
		}
		parts = append(parts, found[1])
		text = text[len(found[0]):]
	}
	return parts, true
}

// numberTold reads an amount, by exact numbers.
func numberTold(text string) (float64, bool) {
	if text == "0" {
		return 0, true
	}
	first, second, _ := strings.Cut(text, "p")
	mantissa, _ := strconv.Atoi(first)
	exponent, _ := strconv.Atoi(second)
	if strconv.Itoa(mantissa) != first || strconv.Itoa(exponent) != second || mantissa%2 == 0 || mantissa > 1<<24 || max(exponent, -exponent) > 1000 {
		return 0, false
	}
	exact := new(big.Float).SetMantExp(big.NewFloat(float64(mantissa)), exponent)
	narrow, accuracy := exact.Float32()
	return float64(narrow), accuracy == big.Exact && !math.IsInf(float64(narrow), 0)
}

// leafRead reads a part that is a slot or a number.
func leafRead(part string) ([]impl.Node, bool) {
	if part[0] == 's' {
		return postfix(part), true
	}
	text, imaginary := strings.CutSuffix(part, "i")
	amount, ok := numberTold(text)
	switch {
	case !ok || imaginary && amount == 0:
		return nil, false
	case imaginary:
		return []impl.Node{numberNode(complex(0, amount))}, true
	}
	return []impl.Node{numberNode(complex(amount, 0))}, true
}

// isOperandEnd reports whether a part may be the last one of an operand.
func isOperandEnd(part string) bool {
	return part == ")" || part[0] == 's' || part[0] >= '0' && part[0] <= '9'
}

// lastOperator returns the last place of one of the operators, outside of all parentheses, behind
// an operand; -1 if there is none.
func lastOperator(parts []string, operators string) int {
	depth, last := 0, -1
	for i, part := range parts {
		switch {
		case part == "(":
			depth++
		case part == ")":
			depth--
		case depth == 0 && i > 0 && strings.Contains(operators, part) && isOperandEnd(parts[i-1]):
			last = i
		}
	}
	return last
}

// isOnePair reports whether the parts begin with a "(" whose ")" is the last one.
func isOnePair(parts []string) bool {
	depth := 0
	for i, part := range parts {
		switch part {
		case "(":
			depth++
		case ")":
			depth--
		}
		if depth <= 0 {
			return depth == 0 && i > 0 && i == len(parts)-1
		}
	}
	return false
}

// readTold reads parts in another way than the program: it splits them at the operator that is
// done last.
func readTold(parts []string) ([]impl.Node, bool) {
	if len(parts) == 0 {
		return nil, false
	}
	for _, operators := range []string{"=", "+-", "*/"} {
		if place := lastOperator(parts, operators); place >= 0 {
			first, firstOk := readTold(parts[:place])
			second, secondOk := readTold(parts[place+1:])
			kind := impl.ExPlus + slices.Index(symbols(), " "+parts[place]+" ")
			return append(append(first, second...), operatorNode(kind)), firstOk && secondOk
		}
	}
	ahead, behind := parts[0], parts[1:]
	place := slices.Index(symbols(), ahead)
	switch {
	case place >= 0 && (place < 2 || isOnePair(behind)):
		operand, ok := readTold(behind)
		return append(operand, operatorNode(impl.ExPlus+place)), ok
	case isOnePair(parts):
		return readTold(behind[:len(behind)-1])
	case len(behind) == 0 && (ahead[0] == 's' || ahead[0] >= '0' && ahead[0] <= '9'):
		return leafRead(ahead)
	}
	return nil, false
}

// holdsReadTold holds ParseExpr against readTold, and reports whether the text was read.
func holdsReadTold(t *testing.T, text string) bool {
	t.Helper()
	parts, ok := splitTold(text)
	var want []impl.Node
	if ok && len(text) <= impl.MaxLineLen {
		want, ok = readTold(parts)
	}
	if !ok || len(want) > impl.MaxNodes || len(text) > impl.MaxLineLen {
		holdsUnread(t, text)
		return false
	}
	holdsRead(t, text, want)
	return true
}

// allTexts calls look with each text of up to so many of the parts.
func allTexts(parts []string, count int, look func(text string)) {
	texts := []string{""}
	for range count {
		var longer []string
		for _, text := range texts {
			look(text)
			for _, part := range parts {
				longer = append(longer, text+part)
			}
		}
		texts = longer
	}
	for _, text := range texts {
		look(text)
	}
}

func TestParseExprOfAllShortTexts(t *testing.T) {
	read := 0
	look := func(text string) {
		if holdsReadTold(t, text) {
			read++
		}
	}
	allTexts(strings.Split("s01p-i( )", ""), 5, look)
	allTexts(strings.Split("01p-i", ""), 6, look)
	allTexts([]string{"s3", "-", "*", "=", "(", ")"}, 6, look)
	allTexts([]string{"s3", "1p0i", "+", "-", "/", "=", "(", ")", "re", " "}, 4, look)
	allTexts([]string{"0", "-", "+", "*", "/", "="}, 5, look)
	allTexts([]string{"con", "j", "(", "s1", ")", "im", "re"}, 5, look)
	if read < 900 {
		t.Errorf("%d texts were read", read)
	}
}

// looseText writes an expression with spaces and parentheses that need not stand.
func looseText(source *rand.Rand, e tree) string {
	parts := partsTold(e, func() int { return max(0, source.IntN(6)-4) })
	var text strings.Builder
	for _, part := range append(parts, "") {
		text.WriteString(strings.Repeat(" ", max(0, source.IntN(5)-2)))
		text.WriteString(strings.Trim(part, " "))
	}
	return text.String()
}

// TestWrittenExpressionsAreRead is the first sentence of P8.
func TestWrittenExpressionsAreRead(t *testing.T) {
	source := rand.New(rand.NewPCG(8, 3))
	count := 0
	for _, e := range manyTrees(60) {
		list := e.list()
		text, ok := impl.FormatExpr(list)
		if !ok {
			t.Fatalf("%v has no text", list)
		}
		most := (impl.MaxLineLen - len(text)) / 2
		for _, n := range []int{0, 1, 2, most - 1, most} {
			holdsRead(t, strings.Repeat("(", n)+text+strings.Repeat(")", n), list)
		}
		holdsUnread(t, strings.Repeat("(", most+1)+text+strings.Repeat(")", most+1))
		if loose := looseText(source, e); len(loose) <= impl.MaxLineLen {
			holdsRead(t, loose, list)
			count++
		}
	}
	if count < 2000 {
		t.Errorf("%d texts had room for more", count)
	}
}

// TestReadExpressionsAreWritten asks for the text that is written of what was read: reading that
// comes to the same list, which is valid.
func TestReadExpressionsAreWritten(t *testing.T) {
	source := rand.New(rand.NewPCG(8, 4))
	for _, e := range manyTrees(10) {
		loose := looseText(source, e)
		list, ok := impl.ParseExpr(loose)
		if !ok {
			continue
		}
		if !impl.ExprOk(list) {
			t.Fatalf("%q is read as %v", loose, list)
		}
		holdsText(t, list, textTold(e))
	}
}

// TestParseExprOfChangedTexts leaves out, puts in and changes single bytes.
func TestParseExprOfChangedTexts(t *testing.T) {
	source := rand.New(rand.NewPCG(8, 5))
	const letters = "s0123456789p-i+*/=() conjrem\tS.\xff"
	read, unread := 0, 0
	for _, e := range manyTrees(4) {
		text := looseText(source, e)
		for range 40 {
			place := source.IntN(len(text))
			letter := letters[source.IntN(len(letters))]
			left, right := text[:place], text[place+source.IntN(2):]
			if source.IntN(3) > 0 {
				left += string([]byte{letter})
			}
			if holdsReadTold(t, left+right) {
				read++
			} else {
				unread++
			}
		}
	}
	if read < 1000 || unread < 1000 {
		t.Errorf("%d texts were read and %d were not", read, unread)
	}
}
