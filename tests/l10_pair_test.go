package tests

import (
	"fmt"
	"math"
	"math/rand/v2"
	"regexp"
	"strconv"
	"strings"
	"testing"

	"loop.example/g03320/impl"
)

// noQuanta returns whole numbers that are too great on either side.
func noQuanta() []int {
	const most = impl.MaxQuantum
	return []int{most + 1, -most - 1, most + 2, most * 10, -most * 10, 1 << 32, -1 << 32, math.MaxInt, math.MinInt, math.MinInt + 1}
}

// quanta returns whole numbers of each length, up to the limits.
func quanta() []int {
	out := []int{0, 123456789, -987654321, impl.MaxQuantum - 1, 1 - impl.MaxQuantum, impl.MaxQuantum, -impl.MaxQuantum}
	for n := 1; n < impl.MaxQuantum; n *= 10 {
		out = append(out, n, -n, 9*n, -9*n, 10*n-1, 1-10*n)
	}
	return out
}

// holdsPair asks for the text of a pair, which is read as this pair.
func holdsPair(t *testing.T, re int, im int, text string) {
	t.Helper()
	if got := impl.FormatPair(re, im); got != text {
		t.Errorf("FormatPair(%d, %d) = %q; want %q", re, im, got, text)
	}
	if x, y, ok := impl.ParsePair(text); x != re || y != im || !ok {
		t.Errorf("ParsePair(%q) = %d, %d, %v; want %d, %d", text, x, y, ok, re, im)
	}
}

// holdsNoText asks for 0, 0 and false.
func holdsNoText(t *testing.T, text string) {
	t.Helper()
	if re, im, ok := impl.ParsePair(text); re != 0 || im != 0 || ok {
		t.Errorf("ParsePair(%q) = %d, %d, %v", text, re, im, ok)
	}
}

// TestPairsAreWrittenAndRead is the fourth sentence of P10.
func TestPairsAreWrittenAndRead(t *testing.T) {
	holdsPair(t, 3, -4, "+3-4i")
	holdsPair(t, 0, 0, "+0+0i")
	holdsPair(t, -5, 0, "-5+0i")
	holdsPair(t, 0, -1, "+0-1i")
	holdsPair(t, -9, 9, "-9+9i")
	holdsPair(t, 1000000000, -1000000000, "+1000000000-1000000000i")
	holdsPair(t, -1000000000, 1000000000, "-1000000000+1000000000i")
	for _, re := range quanta() {
		for _, im := range quanta() {
			holdsPair(t, re, im, fmt.Sprintf("%+d%+di", re, im))
		}
	}
	source := rand.New(rand.NewPCG(10, 5))
	for range 20000 {
		re, im := source.IntN(2*impl.MaxQuantum+1)-impl.MaxQuantum, source.IntN(2001)-1000
		holdsPair(t, re, im, fmt.Sprintf("%+d%+di", re, im))
		holdsPair(t, im, re, fmt.Sprintf("%+d%+di", im, re))
	}
}

// TestPairsBeyondTheLimits have no text, and the texts that they would have are not read.
func TestPairsBeyondTheLimits(t *testing.T) {
	for _, n := range noQuanta() {
		for _, m := range append(quanta(), noQuanta()...) {
			if got := impl.FormatPair(n, m); got != "" {
				t.Errorf("FormatPair(%d, %d) = %q", n, m, got)
			}
			if got := impl.FormatPair(m, n); got != "" {
				t.Errorf("FormatPair(%d, %d) = %q", m, n, got)
			}
			holdsNoText(t, fmt.Sprintf("%+d%+di", n, m))
			holdsNoText(t, fmt.Sprintf("%+d%+di", m, n))
		}
	}
}

func TestTextsThatAreNoPairs(t *testing.T) {
	nines := strings.Repeat("9", 30)
	for _, text := range []string{
		"", "i", "+", "-", "+i", "+-i", "++i", "--i", "0", "+0", "+0i", "+0+0", "+0+0i ", " +0+0i", "+0 +0i", "+0+0 i", "+ 0+0i", "0+0i", "0i", "3-4i", "-0+0i", "+0-0i", "-0-0i", "+00+0i", "+0+00i", "+01+1i", "+1+01i", "-01-1i",
		"+1+1", "+1i", "-1i", "+1", "+-1+1i", "+1+-1i", "++1+1i", "+1++1i", "--1+1i", "+1--1i", "-+1+1i", "+1-+1i", "+1 +1i", "+1+1ii", "+1+1I", "+1+1j", "+1+1i+1", "+1+1i+1i", "+1+1+1i", "+1+1-1i", "-1-1-1i", "i+1+1", "+1i+1i", "+1i+1", "+1+i", "+1-i", "++1i", "+-1i", "-+1i",
		"+1000000001+0i", "+0+1000000001i", "-1000000001+0i", "+0-1000000001i", "+01000000000+0i", "+10000000000+0i", "+9223372036854775807+0i", "+9223372036854775808+0i", "+0-9223372036854775808i", "+18446744073709551616+0i", "+18446744073709551617-18446744073709551615i", "+4294967296+4294967297i", "+" + nines + "+0i", "+0-" + nines + "i", "-" + nines + "-" + nines + "i",
		"+1_0+1i", "+0x1+1i", "+1e1+1i", "+1.0+1i", "+1,+1i", "+1;1i", "+a+1i", "+1+ai", "+A-BI", "+3P0-4I", "+inf+0i", "+nan+0i", "(+1+1i)", "+1+1i\n", "\n+1+1i", "+1\t+1i", "+1+1i\x00", "\x00", "+\x00+1i", "+٣+1i", "＋1+1i", "+1−1i", "\xff+1+1i", "+1+1\xff",
		strings.Repeat("+", 1000), strings.Repeat("1", 1000), strings.Repeat("+1", 500) + "i", "+" + strings.Repeat("0", 1000) + "+1i", strings.Repeat("i", 1000), "+1+1" + strings.Repeat("i", 1000),
	} {
		holdsNoText(t, text)
	}
}

// textForm is the form of the text of a pair.
var textForm = regexp.MustCompile(`^(\+0|[+-][1-9][0-9]*)(\+0|[+-][1-9][0-9]*)i$`)

// holdsRightlyRead asks for what the form tells of a text, and returns whether it is one of a pair.
func holdsRightlyRead(t *testing.T, text string) bool {
	t.Helper()
	parts := textForm.FindStringSubmatch(text)
	if parts == nil || len(text) > 23 {
		holdsNoText(t, text)
		return false
	}
	re, _ := strconv.Atoi(parts[1])
	im, _ := strconv.Atoi(parts[2])
	if max(re, -re, im, -im) > 1000000000 {
		holdsNoText(t, text)
		return false
	}
	holdsPair(t, re, im, text)
	return true
}

func TestAllShortTextsOfPairs(t *testing.T) {
	count := 0
	allTexts([]string{"+", "-", "0", "1", "i", " "}, 7, func(text string) {
		if holdsRightlyRead(t, text) {
			count++
		}
	})
	// A part has 3 texts with one digit, 4 with two digits, and 8 with three; there are up to 4 digits.
	if want := 3*3 + 2*3*4 + 4*4 + 2*3*8; count != want {
		t.Errorf("%d texts are read; want %d", count, want)
	}
}

func TestTextsOfPairsWithOtherBytes(t *testing.T) {
	source := rand.New(rand.NewPCG(10, 6))
	const bytes = "+-0019i. I"
	count := map[bool]int{}
	for range 60000 {
		re, im := quanta()[source.IntN(len(quanta()))], source.IntN(30)-15
		text := []byte(impl.FormatPair(re, im))
		place := source.IntN(len(text))
		other := bytes[source.IntN(len(bytes))]
		switch source.IntN(3) {
		case 0:
			text[place] = other
		case 1:
			text = append(text[:place], text[place+1:]...)
		default:
			text = []byte(string(text[:place]) + string(other) + string(text[place:]))
		}
		count[holdsRightlyRead(t, string(text))]++
	}
	if count[true] < 10000 || count[false] < 10000 {
		t.Errorf("%v", count)
	}
}

// holdsPairOf asks for the two numbers of units.
func holdsPairOf(t *testing.T, z complex64, u impl.Unit, re int, im int) {
	t.Helper()
	if x, y, ok := impl.PairOf(z, u); x != re || y != im || !ok {
		t.Errorf("PairOf(%v, %v) = %d, %d, %v; want %d, %d", z, u, x, y, ok, re, im)
	}
	if !impl.EqualWithin(z, z, u) {
		t.Errorf("EqualWithin of %v and itself, with %v, is false", z, u)
	}
}

// holdsNoPair asks for 0, 0 and false: such a number does not even equal itself.
func holdsNoPair(t *testing.T, z complex64, u impl.Unit) {
	t.Helper()
	if x, y, ok := impl.PairOf(z, u); x != 0 || y != 0 || ok {
		t.Errorf("PairOf(%v, %v) = %d, %d, %v", z, u, x, y, ok)
	}
	for _, other := range []complex64{z, 0, 1} {
		if impl.EqualWithin(z, other, u) || impl.EqualWithin(other, z, u) {
			t.Errorf("EqualWithin of %v and %v, with %v, is true", z, other, u)
		}
	}
}

// noParts returns singles that have no number of units of 0.5.
func noParts() []float32 {
	return []float32{notANumber(), infinite(1), infinite(-1), greatestSingle, -greatestSingle, just(5e8, 1), -just(5e8, 1)}
}

func TestPairOf(t *testing.T) {
	holdsPairOf(t, complex(1.25, -2), half(), 3, -4)
	holdsPairOf(t, complex(-2, 1.25), half(), -4, 3)
	holdsPairOf(t, complex(1.25, -2), turnedUnit(half()), -3, 4)
	holdsPairOf(t, complex(minusZero(), minusZero()), half(), 0, 0)
	holdsPairOf(t, complex(-0.2, minusZero()), half(), 0, 0)
	holdsPairOf(t, complex(5e8, -5e8), half(), 1000000000, -1000000000)
	for _, x := range noParts() {
		for _, y := range append(noParts(), 0, minusZero(), 1, 5e8, leastSingle) {
			holdsNoPair(t, complex(x, y), half())
			holdsNoPair(t, complex(y, x), half())
		}
	}
}

func TestPairOfManyNumbers(t *testing.T) {
	source := rand.New(rand.NewPCG(10, 7))
	count := map[bool]int{}
	for _, u := range manyUnits(200) {
		for range 100 {
			z := complex(numberFor(source, u), numberFor(source, u))
			re, reOk := quantumTold(real(z), u)
			im, imOk := quantumTold(imag(z), u)
			count[reOk && imOk]++
			if reOk && imOk {
				holdsPairOf(t, z, u, re, im)
			} else {
				holdsNoPair(t, z, u)
			}
		}
	}
	if count[true] < 3000 || count[false] < 3000 {
		t.Errorf("%v", count)
	}
}

func TestEqualWithin(t *testing.T) {
	cases := []struct {
		a, b complex64
		want bool
	}{
		{1.25, 1.5, true}, {1.5, complex(just(1.75, -1), 0), true}, {1.5, 1.75, false}, {1.25, complex(just(1.25, -1), 0), false}, {0, complex(minusZero(), minusZero()), true}, {0.2, -0.2, true}, {0.25, -0.25, false}, {0.25, 0.2, false}, {1, complex(1, 0.2), true}, {1, complex(1, 0.25), false}, {1, complex(1, -0.25), false},
		{complex(0, 3), complex(0.1, 3.2), true}, {complex(0, 3), complex(0, 3.25), false}, {complex(0, 3), complex(3, 0), false}, {complex(1, 2), complex(2, 1), false}, {complex(1, 2), complex(1, -2), false}, {complex(1, 2), complex(-1, 2), false}, {complex(3, 3), complex(3, 4), false}, {complex(3, 3), complex(4, 3), false}, {complex(4, 4), complex(3, 3), false},
	}
	for _, c := range cases {
		for _, u := range []impl.Unit{half(), turnedUnit(half())} {
			if impl.EqualWithin(c.a, c.b, u) != c.want || impl.EqualWithin(c.b, c.a, u) != c.want {
				t.Errorf("EqualWithin(%v, %v, %v) is not %v", c.a, c.b, u, c.want)
			}
		}
	}
	// What is unlike within small units is alike within great ones.
	if impl.EqualWithin(100, 101, one()) || !impl.EqualWithin(100, 101, unitOf("+", 1, 3)) {
		t.Error("the unit plays no part")
	}
}

// closeNumber returns a number of few units, so that many of these are alike.
func closeNumber(source *rand.Rand, u impl.Unit) complex64 {
	unit, _ := unitTold(u)
	part := func() float32 {
		if source.IntN(30) == 0 {
			return noParts()[source.IntN(3)]
		}
		return float32(source.IntN(9)-4) / 4 * unit
	}
	return complex(part(), part())
}

// TestEqualityWithinUnits is the third sentence of P10.
func TestEqualityWithinUnits(t *testing.T) {
	source := rand.New(rand.NewPCG(10, 8))
	count := map[bool]int{}
	for _, u := range manyUnits(200) {
		for range 200 {
			a, b, c := closeNumber(source, u), closeNumber(source, u), closeNumber(source, u)
			_, _, ok := impl.PairOf(a, u)
			if impl.EqualWithin(a, a, u) != ok {
				t.Fatalf("%v and itself, with %v: %v", a, u, !ok)
			}
			first, second := impl.EqualWithin(a, b, u), impl.EqualWithin(b, c, u)
			if impl.EqualWithin(b, a, u) != first || first && second && !impl.EqualWithin(a, c, u) {
				t.Fatalf("with %v: %v, %v, %v", u, a, b, c)
			}
			if want := alikeTold(a, b, u); first != want {
				t.Fatalf("EqualWithin(%v, %v, %v) = %v", a, b, u, first)
			}
			count[first && second]++
		}
	}
	if count[true] < 300 || count[false] < 5000 {
		t.Errorf("%v", count)
	}
}

// alikeTold is EqualWithin in other words than the program.
func alikeTold(a complex64, b complex64, u impl.Unit) bool {
	for _, parts := range [][2]float32{{real(a), real(b)}, {imag(a), imag(b)}} {
		x, xOk := quantumTold(parts[0], u)
		y, yOk := quantumTold(parts[1], u)
		if !xOk || !yOk || x != y {
			return false
		}
	}
	return true
}
