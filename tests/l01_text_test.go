package tests

import (
	"math"
	"slices"
	"strconv"
	"strings"
	"testing"
	"unsafe"

	"loop.example/g03320/impl"
)

// allBytes returns a string in which each byte value stands once.
func allBytes() string {
	out := make([]byte, 256)
	for i := range out {
		out[i] = byte(i)
	}
	return string(out)
}

func TestEncodeHexWritesTwoLowercaseDigitsPerByte(t *testing.T) {
	cases := []struct{ plain, coded string }{
		{"", ""},
		{"az", "617a"},
		{"\x00\x0f\xf0\xff", "000ff0ff"},
		{"\n \xab\xcd\xef", "0a20abcdef"},
		{"\u00e4", "c3a4"},
	}
	for _, c := range cases {
		if got, ok := impl.EncodeHex(c.plain); got != c.coded || !ok {
			t.Errorf("EncodeHex(%q) = %q, %v; want %q, true", c.plain, got, ok, c.coded)
		}
		if got, ok := impl.DecodeHex(c.coded); got != c.plain || !ok {
			t.Errorf("DecodeHex(%q) = %q, %v; want %q, true", c.coded, got, ok, c.plain)
		}
	}
}

func TestDecodeHexInvertsEncodeHex(t *testing.T) {
	every := allBytes()
	plains := []string{every, every[100:] + every[:100], strings.Repeat(every, 78), strings.Repeat("\xff", impl.MaxInputLen-1), strings.Repeat("z", impl.MaxInputLen)}
	for i := range len(every) {
		plains = append(plains, every[i:i+1], every[:i])
	}
	for _, plain := range plains {
		coded, ok := impl.EncodeHex(plain)
		if !ok || len(coded) != 2*len(plain) {
			t.Fatalf("EncodeHex of %d bytes has %d digits, %v", len(plain), len(coded), ok)
		}
		if got, ok := impl.DecodeHex(coded); got != plain || !ok {
			t.Fatalf("DecodeHex(EncodeHex(%q)) = %q, %v", plain, got, ok)
		}
	}
}

func TestHexRejectsLongInput(t *testing.T) {
	if got, ok := impl.EncodeHex(strings.Repeat("a", impl.MaxInputLen+1)); got != "" || ok {
		t.Errorf("EncodeHex of MaxInputLen+1 bytes has %d digits, %v", len(got), ok)
	}
	if got, ok := impl.DecodeHex(strings.Repeat("61", impl.MaxInputLen)); len(got) != impl.MaxInputLen || !ok {
		t.Errorf("DecodeHex to MaxInputLen bytes has %d bytes, %v", len(got), ok)
	}
	if got, ok := impl.DecodeHex(strings.Repeat("61", impl.MaxInputLen+1)); got != "" || ok {
		t.Errorf("DecodeHex to MaxInputLen+1 bytes has %d bytes, %v", len(got), ok)
	}
}

func TestDecodeHexRejectsOtherTexts(t *testing.T) {
	texts := []string{"6", "617", "6A", "A6", "AB", "0g", "g0", "/0", "0/", ":0", "0:", "`0", "0`", "@0", " 0", "61 7a", "0x61", "-1", "\x000", "\xff\xff", "\u00e4", strings.Repeat("0", 2*impl.MaxInputLen-1), strings.Repeat("0", 2*impl.MaxInputLen-1) + "G"}
	for _, s := range texts {
		if got, ok := impl.DecodeHex(s); got != "" || ok {
			t.Errorf("DecodeHex(%.20q) = %q, %v; want nothing", s, got, ok)
		}
	}
}

func TestDecodeHexTakesJustTheSixteenDigits(t *testing.T) {
	every := allBytes()
	for i := range len(every) {
		known := strings.Contains("0123456789abcdef", every[i:i+1])
		_, high := impl.DecodeHex(every[i:i+1] + "0")
		_, low := impl.DecodeHex("0" + every[i:i+1])
		if high != known || low != known {
			t.Errorf("byte %d is a digit: %v, %v; want %v", i, high, low, known)
		}
	}
}

func TestFormatIntIsDecimal(t *testing.T) {
	cases := []struct {
		n    int
		text string
	}{
		{0, "0"}, {7, "7"}, {-7, "-7"}, {10, "10"}, {-10, "-10"}, {100, "100"}, {12345, "12345"},
		{impl.MaxUint, "1000000000"}, {-impl.MaxUint, "-1000000000"},
		{math.MaxInt, "9223372036854775807"}, {math.MinInt, "-9223372036854775808"}, {math.MinInt + 1, "-9223372036854775807"},
	}
	for _, c := range cases {
		if got := impl.FormatInt(c.n); got != c.text {
			t.Errorf("FormatInt(%d) = %q; want %q", c.n, got, c.text)
		}
	}
}

func TestParseUintInvertsFormatInt(t *testing.T) {
	numbers := []int{impl.MaxUint, impl.MaxUint - 1, 999999999, 100000000, 99999999}
	for n := range 2000 {
		numbers = append(numbers, n)
	}
	for n := 1; n < impl.MaxUint; n += n/7 + 1 {
		numbers = append(numbers, n)
	}
	for _, n := range numbers {
		if got, ok := impl.ParseUint(impl.FormatInt(n)); got != n || !ok {
			t.Fatalf("ParseUint(FormatInt(%d)) = %d, %v", n, got, ok)
		}
	}
}

func TestParseUintRejectsOtherTexts(t *testing.T) {
	texts := []string{"", "01", "00", "000", "-0", "+0", "-1", "+1", "1000000001", "1000000010", "9999999999", "10000000000", "0000000001", "9223372036854775807", "9223372036854775808", "18446744073709551616", "18446744073709551617", strings.Repeat("0", 30), strings.Repeat("9", 30000), " 1", "1 ", "1\n", "1.", "1.0", "1e3", "0x1", "1_0", "a", "1a", "a1", "/", ":", "\x00", "\u0661"}
	for _, s := range texts {
		if got, ok := impl.ParseUint(s); got != 0 || ok {
			t.Errorf("ParseUint(%.20q) = %d, %v; want nothing", s, got, ok)
		}
	}
}

func TestSplitFieldsTakesRunsWithoutSpaces(t *testing.T) {
	cases := []struct {
		line   string
		fields []string
	}{
		{"", nil},
		{" ", nil},
		{strings.Repeat(" ", impl.MaxLineLen), nil},
		{"one", []string{"one"}},
		{"  one", []string{"one"}},
		{"one  ", []string{"one"}},
		{" read 0  +3p-2 ", []string{"read", "0", "+3p-2"}},
		{"! ~", []string{"!", "~"}},
		{strings.Repeat("x", impl.MaxLineLen), []string{strings.Repeat("x", impl.MaxLineLen)}},
		{strings.Repeat(" y ", impl.MaxFieldsPerLine), slices.Repeat([]string{"y"}, impl.MaxFieldsPerLine)},
		{strings.Repeat("z ", impl.MaxFieldsPerLine) + strings.Repeat(" ", impl.MaxLineLen-2*impl.MaxFieldsPerLine), slices.Repeat([]string{"z"}, impl.MaxFieldsPerLine)},
	}
	for _, c := range cases {
		if got, ok := impl.SplitFields(c.line); !slices.Equal(got, c.fields) || !ok {
			t.Errorf("SplitFields(%q) = %q, %v; want %q, true", c.line, got, ok, c.fields)
		}
	}
}

func TestSplitFieldsRejectsOtherLines(t *testing.T) {
	lines := []string{
		strings.Repeat(" ", impl.MaxLineLen+1),
		strings.Repeat("x", impl.MaxLineLen+1),
		strings.Repeat("y ", impl.MaxFieldsPerLine+1),
		strings.Repeat("y ", impl.MaxFieldsPerLine) + "y",
		"a\tb", "a\nb", "\r", "a\x00", "\x1f", "\x7f", "a \x80", "\xff", "\u00a0", "\u00e4", "\u2003",
	}
	for _, line := range lines {
		if got, ok := impl.SplitFields(line); len(got) != 0 || ok {
			t.Errorf("SplitFields(%.20q) = %q, %v; want nothing", line, got, ok)
		}
	}
}

func TestSplitFieldsTakesJustTheBytesFrom32To126(t *testing.T) {
	every := allBytes()
	for i := range len(every) {
		got, ok := impl.SplitFields("a" + every[i:i+1] + "b")
		want := []string{"a" + every[i:i+1] + "b"}
		switch {
		case i < 32 || i > 126:
			want = nil
		case i == 32:
			want = []string{"a", "b"}
		}
		if !slices.Equal(got, want) || ok != (want != nil) {
			t.Errorf("byte %d between letters: %q, %v; want %q", i, got, ok, want)
		}
	}
}

func TestJoinedFieldsHaveTheSameFields(t *testing.T) {
	for n := range impl.MaxFieldsPerLine + 1 {
		var fields []string
		for i := range n {
			fields = append(fields, strconv.Itoa(i*i)+strings.Repeat("~", i%5))
		}
		for _, gap := range []string{" ", "  ", "     "} {
			line := gap + strings.Join(fields, gap) + gap
			if got, ok := impl.SplitFields(line); !slices.Equal(got, fields) || !ok {
				t.Errorf("SplitFields(%q) = %q, %v; want %q, true", line, got, ok, fields)
			}
		}
	}
}

func TestFieldsShareNoMemoryWithTheLine(t *testing.T) {
	for _, line := range []string{"one", " two words "} {
		start := uintptr(unsafe.Pointer(unsafe.StringData(line)))
		fields, _ := impl.SplitFields(line)
		for _, field := range fields {
			at := uintptr(unsafe.Pointer(unsafe.StringData(field)))
			if at >= start && at < start+uintptr(len(line)) {
				t.Errorf("the field %q is a part of the line %q", field, line)
			}
		}
	}
}

func TestClampKeepsToTheRange(t *testing.T) {
	cases := []struct{ n, low, high, want int }{
		{5, 0, 10, 5}, {-1, 0, 10, 0}, {11, 0, 10, 10}, {0, 0, 10, 0}, {10, 0, 10, 10}, {3, 7, 7, 7},
		{5, 10, 0, 10}, {-5, 10, 0, 10}, {15, 10, 0, 10}, {10, 10, 9, 10},
		{math.MinInt, -3, 3, -3}, {math.MaxInt, -3, 3, 3}, {0, math.MinInt, math.MaxInt, 0},
		{math.MinInt, math.MinInt, math.MaxInt, math.MinInt}, {math.MaxInt, math.MinInt, math.MaxInt, math.MaxInt},
		{0, math.MaxInt, math.MinInt, math.MaxInt},
	}
	for _, c := range cases {
		if got := impl.Clamp(c.n, c.low, c.high); got != c.want {
			t.Errorf("Clamp(%d, %d, %d) = %d; want %d", c.n, c.low, c.high, got, c.want)
		}
	}
}

func TestClampIsIdempotent(t *testing.T) {
	numbers := []int{math.MinInt, math.MinInt + 1, -100, -1, 0, 1, 2, 100, math.MaxInt - 1, math.MaxInt}
	for _, n := range numbers {
		for _, low := range numbers {
			for _, high := range numbers {
				once := impl.Clamp(n, low, high)
				if twice := impl.Clamp(once, low, high); twice != once {
					t.Errorf("Clamp(%d, %d, %d) = %d, and clamped again %d", n, low, high, once, twice)
				}
				if low <= n && n <= high && once != n {
					t.Errorf("Clamp(%d, %d, %d) = %d; want the number itself", n, low, high, once)
				}
			}
		}
	}
}
