package tests

import (
	"math"
	"strings"
	"testing"

	"loop.example/g03320/impl"
)

const (
	leastSingle    = math.SmallestNonzeroFloat32
	greatestSingle = math.MaxFloat32
)

// Constants have no -0, infinite number or NaN; these functions make them.

func minusZero() float32 { return float32(math.Copysign(0, -1)) }

func infinite(sign int) float32 { return float32(math.Inf(sign)) }

func notANumber() float32 { return float32(math.NaN()) }

// sameBits holds singles against each other by their bits, apart from NaNs, which are all the same.
func sameBits(a float32, b float32) bool {
	return a != a && b != b || math.Float32bits(a) == math.Float32bits(b)
}

// manySingles returns singles of all exponents, subnormal ones among them, with both signs, and
// the infinite ones and NaNs.
func manySingles() []float32 {
	var out []float32
	fractions := []uint32{0, 1, 2, 3, 5, 1 << 10, 0x2aaaaa, 1 << 22, 0x555555, 0x7ffffe, 0x7fffff}
	for exponent := range uint32(256) {
		for _, fraction := range fractions {
			bits := exponent<<23 | fraction
			out = append(out, math.Float32frombits(bits), math.Float32frombits(bits|1<<31))
		}
	}
	for place := range 23 {
		out = append(out, math.Float32frombits(1<<place), math.Float32frombits(1<<31|1<<place))
	}
	for bits := uint64(0); bits < 1<<32; bits += 98765 {
		out = append(out, math.Float32frombits(uint32(bits)))
	}
	return out
}

func TestIsFiniteLooksAtBothParts(t *testing.T) {
	finite := []float64{0, math.Copysign(0, -1), 1, -1, math.MaxFloat64, -math.MaxFloat64, math.SmallestNonzeroFloat64}
	other := []float64{math.Inf(1), math.Inf(-1), math.NaN()}
	for _, a := range finite {
		for _, b := range finite {
			if !impl.IsFinite(complex(a, b)) {
				t.Errorf("IsFinite(%v, %v) is false", a, b)
			}
		}
		for _, b := range other {
			if impl.IsFinite(complex(a, b)) || impl.IsFinite(complex(b, a)) || impl.IsFinite(complex(b, b)) {
				t.Errorf("IsFinite is true with %v and %v", a, b)
			}
		}
	}
}

func TestSameSingleTellsZerosApartAndNaNsNot(t *testing.T) {
	singles := []float32{0, minusZero(), 1, -1, 1.0000001, leastSingle, -leastSingle, greatestSingle, -greatestSingle, infinite(1), infinite(-1), notANumber()}
	for i, a := range singles {
		for j, b := range singles {
			if got := impl.SameSingle(a, b); got != (i == j) {
				t.Errorf("SameSingle(%v, %v) = %v", a, b, got)
			}
		}
	}
	otherNaN := math.Float32frombits(0xffc00123)
	if !impl.SameSingle(notANumber(), otherNaN) || !impl.SameSingle(otherNaN, notANumber()) {
		t.Error("two NaNs are not the same")
	}
}

func TestSameComplexLooksAtBothParts(t *testing.T) {
	parts := []float64{0, math.Copysign(0, -1), 1, -1, math.Nextafter(1, 2), math.MaxFloat64, math.Inf(1), math.Inf(-1), math.NaN()}
	for i, a := range parts {
		for j, b := range parts {
			for k, c := range parts {
				for l, d := range parts {
					if got := impl.SameComplex(complex(a, b), complex(c, d)); got != (i == k && j == l) {
						t.Errorf("SameComplex((%v, %v), (%v, %v)) = %v", a, b, c, d, got)
					}
				}
			}
		}
	}
}

func TestSignedSetsTheSignInFront(t *testing.T) {
	cases := []struct {
		sign    string
		x, want float32
	}{
		{"+", 2.5, 2.5}, {"-", 2.5, -2.5}, {"+", -2.5, -2.5}, {"-", -2.5, 2.5},
		{"+", 0, 0}, {"-", 0, minusZero()}, {"+", minusZero(), minusZero()}, {"-", minusZero(), 0},
		{"+", infinite(1), infinite(1)}, {"-", infinite(1), infinite(-1)}, {"-", infinite(-1), infinite(1)},
		{"+", notANumber(), notANumber()}, {"-", notANumber(), notANumber()},
		{"-", leastSingle, -leastSingle}, {"-", greatestSingle, -greatestSingle},
	}
	for _, c := range cases {
		if got, ok := impl.Signed(c.sign, c.x); !sameBits(got, c.want) || !ok {
			t.Errorf("Signed(%q, %v) = %v, %v; want %v, true", c.sign, c.x, got, ok, c.want)
		}
	}
}

func TestSignedRejectsOtherSigns(t *testing.T) {
	for _, sign := range []string{"", " ", "*", "++", "--", "+-", "-+", "+ ", " +", " -", "- ", "plus", ",", ".", "\x00", "\u2212", "+\x00"} {
		for _, x := range []float32{1, -1, notANumber(), infinite(1), minusZero()} {
			if got, ok := impl.Signed(sign, x); !sameBits(got, 0) || ok {
				t.Errorf("Signed(%q, %v) = %v, %v; want 0, false", sign, x, got, ok)
			}
		}
	}
}

func TestSignPlusKeepsAndSignMinusTwiceKeeps(t *testing.T) {
	for _, x := range manySingles() {
		plus, plusOk := impl.Signed("+", x)
		once, onceOk := impl.Signed("-", x)
		twice, twiceOk := impl.Signed("-", once)
		if !plusOk || !onceOk || !twiceOk || !sameBits(plus, x) || !sameBits(twice, x) {
			t.Fatalf("%v: with + %v, with - %v, with - again %v", x, plus, once, twice)
		}
		if x == x && math.Signbit(float64(once)) == math.Signbit(float64(x)) {
			t.Fatalf("%v: the sign is not turned: %v", x, once)
		}
	}
}

func TestSignTextTellsMinusZero(t *testing.T) {
	cases := []struct {
		x    float32
		want string
	}{
		{0, "+"}, {minusZero(), "-"}, {3, "+"}, {-3, "-"}, {leastSingle, "+"}, {-leastSingle, "-"}, {greatestSingle, "+"}, {-greatestSingle, "-"},
		{infinite(1), "+"}, {infinite(-1), "-"}, {notANumber(), ""}, {math.Float32frombits(0xffc00000), ""}, {math.Float32frombits(0x7fc00001), ""},
	}
	for _, c := range cases {
		if got := impl.SignText(c.x); got != c.want {
			t.Errorf("SignText(%v) = %q; want %q", c.x, got, c.want)
		}
	}
}

// splitCases holds finite singles above 0 with their mantissas and exponents.
var splitCases = []struct {
	x    float32
	m, e int
	text string
}{
	{1, 1, 0, "1p0"}, {2, 1, 1, "1p1"}, {3, 3, 0, "3p0"}, {6, 3, 1, "3p1"}, {12, 3, 2, "3p2"}, {0.75, 3, -2, "3p-2"}, {0.625, 5, -3, "5p-3"}, {0.5, 1, -1, "1p-1"},
	{0.1, 13421773, -27, "13421773p-27"},
	{16777215, 16777215, 0, "16777215p0"}, {16777216, 1, 24, "1p24"}, {16777218, 8388609, 1, "8388609p1"},
	{leastSingle, 1, -149, "1p-149"}, {2 * leastSingle, 1, -148, "1p-148"}, {3 * leastSingle, 3, -149, "3p-149"},
	{8388607 * leastSingle, 8388607, -149, "8388607p-149"}, {0x1p-126, 1, -126, "1p-126"}, {16777215 * leastSingle, 16777215, -149, "16777215p-149"},
	{0x1p127, 1, 127, "1p127"}, {0x1.8p127, 3, 126, "3p126"}, {greatestSingle, 16777215, 104, "16777215p104"},
}

func TestSplitSingleTellsTheOddMantissa(t *testing.T) {
	for _, c := range splitCases {
		for _, x := range []float32{c.x, -c.x} {
			if m, e, ok := impl.SplitSingle(x); m != c.m || e != c.e || !ok {
				t.Errorf("SplitSingle(%v) = %d, %d, %v; want %d, %d, true", x, m, e, ok, c.m, c.e)
			}
		}
	}
	for _, x := range []float32{0, minusZero()} {
		if m, e, ok := impl.SplitSingle(x); m != 0 || e != 0 || !ok {
			t.Errorf("SplitSingle(%v) = %d, %d, %v; want 0, 0, true", x, m, e, ok)
		}
	}
	for _, x := range []float32{infinite(1), infinite(-1), notANumber()} {
		if m, e, ok := impl.SplitSingle(x); m != 0 || e != 0 || ok {
			t.Errorf("SplitSingle(%v) = %d, %d, %v; want 0, 0, false", x, m, e, ok)
		}
	}
}

func TestMakeSingleIsExact(t *testing.T) {
	cases := []struct {
		sign string
		m, e int
		want float32
	}{
		{"+", 3, -2, 0.75}, {"-", 3, 1, -6}, {"+", 2, 0, 2}, {"+", 8, -3, 1}, {"-", 1 << 20, -20, -1},
		{"+", 0, 0, 0}, {"-", 0, 0, minusZero()}, {"+", 0, impl.MaxExponent, 0}, {"-", 0, impl.MinExponent, minusZero()},
		{"+", 1, impl.MinExponent, leastSingle}, {"-", 1, impl.MinExponent, -leastSingle}, {"+", 1, impl.MaxExponent, 0x1p127}, {"-", 1, impl.MaxExponent, -0x1p127},
		{"+", impl.MaxMantissa, 0, 16777215}, {"+", impl.MaxMantissa, impl.MinExponent, 16777215 * leastSingle},
		{"+", impl.MaxMantissa, 104, greatestSingle}, {"-", impl.MaxMantissa, 104, -greatestSingle},
	}
	for _, c := range cases {
		if got, ok := impl.MakeSingle(c.sign, c.m, c.e); !sameBits(got, c.want) || !ok {
			t.Errorf("MakeSingle(%q, %d, %d) = %v, %v; want %v, true", c.sign, c.m, c.e, got, ok, c.want)
		}
	}
}

func TestMakeSingleRejectsOtherArguments(t *testing.T) {
	cases := []struct {
		sign string
		m, e int
	}{
		{"", 1, 0}, {"*", 1, 0}, {"++", 1, 0}, {"+ ", 1, 0}, {"", 0, 0}, {"--", 0, 0},
		{"+", -1, 0}, {"+", impl.MaxMantissa + 1, 0}, {"+", math.MinInt, 0}, {"-", math.MaxInt, 0},
		{"+", 1, impl.MaxExponent + 1}, {"+", 0, impl.MaxExponent + 1}, {"+", 2, impl.MinExponent - 1}, {"+", 0, impl.MinExponent - 1},
		{"+", 1, math.MaxInt}, {"-", 0, math.MaxInt}, {"+", 1, math.MinInt}, {"+", 0, math.MinInt}, {"+", math.MinInt, math.MinInt}, {"+", math.MaxInt, math.MaxInt},
		{"+", 2, impl.MaxExponent}, {"-", 3, impl.MaxExponent}, {"+", impl.MaxMantissa, 105}, {"-", impl.MaxMantissa, impl.MaxExponent}, {"+", 1 << 23, 105},
	}
	for _, c := range cases {
		if got, ok := impl.MakeSingle(c.sign, c.m, c.e); !sameBits(got, 0) || ok {
			t.Errorf("MakeSingle(%q, %d, %d) = %v, %v; want 0, false", c.sign, c.m, c.e, got, ok)
		}
	}
}

func TestFiniteSingleIsMadeAgainFromItsParts(t *testing.T) {
	for _, x := range manySingles() {
		m, e, ok := impl.SplitSingle(x)
		if finite := x-x == 0; ok != finite {
			t.Fatalf("SplitSingle(%v) is %v", x, ok)
		}
		if !ok {
			continue
		}
		if x != 0 && m%2 != 1 {
			t.Fatalf("the mantissa of %v is %d", x, m)
		}
		if got, ok := impl.MakeSingle(impl.SignText(x), m, e); !sameBits(got, x) || !ok {
			t.Fatalf("%v is made again as %v, %v", x, got, ok)
		}
	}
}

func TestFormatSingleAndParseSingle(t *testing.T) {
	cases := []struct {
		x    float32
		text string
	}{
		{0, "+0"}, {minusZero(), "-0"}, {infinite(1), "+inf"}, {infinite(-1), "-inf"}, {notANumber(), "nan"}, {math.Float32frombits(0xffc00000), "nan"},
	}
	for _, c := range splitCases {
		cases = append(cases, struct {
			x    float32
			text string
		}{c.x, "+" + c.text}, struct {
			x    float32
			text string
		}{-c.x, "-" + c.text})
	}
	for _, c := range cases {
		if got := impl.FormatSingle(c.x); got != c.text {
			t.Errorf("FormatSingle(%v) = %q; want %q", c.x, got, c.text)
		}
		if got, ok := impl.ParseSingle(c.text); !sameBits(got, c.x) || !ok {
			t.Errorf("ParseSingle(%q) = %v, %v; want %v, true", c.text, got, ok, c.x)
		}
	}
}

func TestSingleThatIsWrittenAndReadBackIsTheSame(t *testing.T) {
	for _, x := range manySingles() {
		text := impl.FormatSingle(x)
		got, ok := impl.ParseSingle(text)
		if !ok || !sameBits(got, x) || !impl.SameSingle(got, x) {
			t.Fatalf("%v is written as %q and read as %v, %v", x, text, got, ok)
		}
	}
}

func TestParseSingleRejectsOtherTexts(t *testing.T) {
	texts := []string{
		"", "+", "-", "0", "inf", "3p-2", "NaN", "NAN", "+nan", "-nan", "nan ", " nan", "Inf", "+Inf", "+INF", "+infinity", "--inf", "+-inf",
		"+00", "-00", "+0p0", "-0p0", "+0p1", "*0", " 0", "++0", "*inf", "*3p0", " 3p0",
		"+2p0", "-2p0", "+6p0", "+4p-1", "+16777214p0", "+16777216p0", "+16777217p0", "+33554433p-1", "+1000000001p0",
		"+03p0", "+3p00", "+3p01", "+3p-01", "+3p-0", "+3p+0", "+3p+1", "+3p--1", "+3p1-", "+3p1p1", "+3pp1", "+3P1", "+3e1",
		"+p0", "+p", "+3p", "+3p-", "+3", "-3", "3", "p", "p0", "+-3p0", "++3p0", "--3p0", "-+3p0", "+3p0 ", " +3p0", "+ 3p0", "+3 p0", "+3p 0", "+3.0p0", "+1.5", "+0.5", "+a", "+3pa", "+3p0\x00",
		"+1p128", "-1p128", "+3p127", "+16777215p105", "+1p-150", "+3p-150", "+16777215p-150", "+1p1000000000", "+1p-1000000000", "+1p18446744073709551616", "+18446744073709551617p0",
		"+1p" + strings.Repeat("9", 50000), "+" + strings.Repeat("9", 50000) + "p0", "\u22123p0", "\xff",
	}
	for _, s := range texts {
		if got, ok := impl.ParseSingle(s); !sameBits(got, 0) || ok {
			t.Errorf("ParseSingle(%.30q) = %v, %v; want 0, false", s, got, ok)
		}
	}
}

func TestParseSingleTakesOneTextOfEachNumberOnly(t *testing.T) {
	for _, sign := range []string{"+", "-", "", " "} {
		for m := range 70 {
			for e := -155; e <= 130; e++ {
				s := sign + impl.FormatInt(m) + "p" + impl.FormatInt(e)
				got, ok := impl.ParseSingle(s)
				_, exists := impl.MakeSingle(sign, m, e)
				if want := exists && m%2 == 1; ok != want || ok && impl.FormatSingle(got) != s || !ok && !sameBits(got, 0) {
					t.Fatalf("ParseSingle(%q) = %v, %v", s, got, ok)
				}
			}
		}
	}
}

func TestReadDecimalDividesByPowersOfTen(t *testing.T) {
	cases := []struct {
		s    string
		want float32
	}{
		{"+0", 0}, {"-0", minusZero()}, {"+00", 0}, {"-0.000", minusZero()}, {"+5", 5}, {"-5", -5}, {"-0.5", -0.5}, {"+2.25", 2.25}, {"+007", 7}, {"-007.50", -7.5},
		{"+0.1", 0.1}, {"-0.3", -0.3}, {"+9", 9}, {"+9.9", 9.9}, {"+10", 10}, {"+1.05", 1.05}, {"+1.50", 1.5},
		{"+16777215", 16777215}, {"+16777217", 16777216}, {"+16777219", 16777220},
		{"+999999999999999", 999999986991104}, {"-999999999999999", -999999986991104},
		{"+99999999999999.9", 1e14}, {"+9.99999999999999", 10}, {"+0.00000000000001", 1e-14}, {"-00000000000000.1", -0.1}, {"+000000000000000", 0},
		{"+123456789012345", 123456788103168}, {"+12345678.9012345", 12345679},
	}
	for _, c := range cases {
		if got, ok := impl.ReadDecimal(c.s); !sameBits(got, c.want) || !ok {
			t.Errorf("ReadDecimal(%q) = %v, %v; want %v, true", c.s, got, ok, c.want)
		}
	}
}

// Multiplying by 1 over the power of ten, in place of dividing by it, gives another single here.
func TestReadDecimalTakesTheQuotient(t *testing.T) {
	cases := []struct {
		s    string
		bits uint32
	}{
		{"+52.6316967010498", 1112704731}, {"-52.6318187713623", 1<<31 | 1112704763}, {"+934588.531250000", 1231301576}, {"+5829088512.00000", 1336785002},
	}
	for _, c := range cases {
		if got, ok := impl.ReadDecimal(c.s); math.Float32bits(got) != c.bits || !ok {
			t.Errorf("ReadDecimal(%q) has the bits %d, %v; want %d", c.s, math.Float32bits(got), ok, c.bits)
		}
	}
}

// The quotient is rounded to float64 before it is narrowed: the single next to the decimal number
// itself is another one here.
func TestReadDecimalRoundsTwice(t *testing.T) {
	cases := []struct {
		s    string
		bits uint32
	}{
		{"+8.00000524520874", 1090519046}, {"+8.00000810623169", 1090519048}, {"-8.00002145767212", 1<<31 | 1090519062}, {"+8.00003957748413", 1090519082},
	}
	for _, c := range cases {
		if got, ok := impl.ReadDecimal(c.s); math.Float32bits(got) != c.bits || !ok {
			t.Errorf("ReadDecimal(%q) has the bits %d, %v; want %d", c.s, math.Float32bits(got), ok, c.bits)
		}
	}
}

func TestReadDecimalRejectsOtherForms(t *testing.T) {
	texts := []string{
		"", "+", "-", "5", "0", "0.5", ".5", "+.5", "-.5", "+5.", "-5.", "+.", "-.", ".", "+5.5.", "+5..5", "+5.5.5", "++5", "--5", "+-5", "-+5", "*5", " 5",
		" +5", "+5 ", "+ 5", "+5. 5", "+5 .5", "+5,5", "+5e3", "+5p0", "+1_000", "+0x5", "+a", "+5a", "+5.a", "+5.5a", "+inf", "nan", "+nan", "+5\x00", "+\u0665", "\u22125", "+5/", "+5:", "+/", "+:",
		"+0000000000000000", "+1234567890123456", "+123456789012345.6", "+12345678.90123456", "+0.000000000000000", "-1.000000000000000", "+123456789012345.", "+000000000000000.0",
		"+" + strings.Repeat("1", 50000), "+0." + strings.Repeat("0", 50000),
	}
	for _, s := range texts {
		if got, ok := impl.ReadDecimal(s); !sameBits(got, 0) || ok {
			t.Errorf("ReadDecimal(%.30q) = %v, %v; want 0, false", s, got, ok)
		}
	}
}

func TestReadDecimalTellsWholeNumbers(t *testing.T) {
	check := func(n int) {
		for _, sign := range []string{"+", "-"} {
			want, _ := impl.Signed(sign, float32(n))
			if got, ok := impl.ReadDecimal(sign + impl.FormatInt(n)); !sameBits(got, want) || !ok {
				t.Fatalf("ReadDecimal(%s%d) = %v, %v", sign, n, got, ok)
			}
		}
	}
	for n := 0; n <= impl.MaxMantissa; n += 37 {
		check(n)
	}
	for power := 1; power <= impl.MaxMantissa+1; power *= 2 {
		check(power - 1)
		check(min(power, impl.MaxMantissa))
		check(power / 2 * 3 / 2)
	}
}

func TestReadDecimalHasAtMostMaxDigits(t *testing.T) {
	for count := 1; count <= impl.MaxDigits+2; count++ {
		digits := strings.Repeat("4", count)
		for point := 1; point <= count; point++ {
			s := "-" + digits[:point]
			if point < count {
				s += "." + digits[point:]
			}
			if _, ok := impl.ReadDecimal(s); ok != (count <= impl.MaxDigits) {
				t.Errorf("ReadDecimal(%q) is %v", s, ok)
			}
		}
	}
}
