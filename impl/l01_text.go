package impl

import (
	"math"
	"strconv"
	"strings"
)

const (
	MaxInputLen      = 20000
	MaxUint          = 1000000000
	MaxLineLen       = 600
	MaxFieldsPerLine = 24
	MaxMantissa      = 16777215
	MinExponent      = -149
	MaxExponent      = 127
	MaxDigits        = 15
)

const (
	hexDigits     = "0123456789abcdef"
	maxUintDigits = 10 // the digits of MaxUint
)

// EncodeHex returns the lowercase hexadecimal encoding of s, two digits per byte with the high
// half first, and true. It returns "" and false if s is longer than MaxInputLen bytes. Example:
// EncodeHex("az") returns "617a" and true.
func EncodeHex(s string) (string, bool) {
	if len(s) > MaxInputLen {
		return "", false
	}
	out := make([]byte, 0, 2*len(s))
	for i := range len(s) {
		out = append(out, hexDigits[s[i]>>4], hexDigits[s[i]&15])
	}
	return string(out), true
}

// DecodeHex returns the string t for which EncodeHex(t) is s, and true. It returns "" and false
// if there is no such string (an odd length, a character other than 0-9 and a-f, or a result
// longer than MaxInputLen).
func DecodeHex(s string) (string, bool) {
	if len(s)%2 != 0 || len(s) > 2*MaxInputLen {
		return "", false
	}
	out := make([]byte, 0, len(s)/2)
	for i := 0; i < len(s); i += 2 {
		high := strings.IndexByte(hexDigits, s[i])
		low := strings.IndexByte(hexDigits, s[i+1])
		if high < 0 || low < 0 {
			return "", false
		}
		out = append(out, byte(high<<4|low))
	}
	return string(out), true
}

// FormatInt returns n in decimal without leading zeros, with a leading `-` for a negative number.
// It is defined for every int; FormatInt(0) is "0".
func FormatInt(n int) string { return strconv.Itoa(n) }

// ParseUint returns the number n in the range 0 to MaxUint for which FormatInt(n) is s, and true.
// It returns 0 and false if there is none. Example: ParseUint("01") returns 0 and false.
func ParseUint(s string) (int, bool) {
	n, _ := scanDigits(s, maxUintDigits)
	if n > MaxUint || FormatInt(n) != s {
		return 0, false
	}
	return n, true
}

// scanDigits reads the digits that s begins with, at most limit of them, and returns them as a
// whole number and how many they are. The number fits an int, since no limit here exceeds 15.
func scanDigits(s string, limit int) (int, int) {
	value, count := 0, 0
scan:
	for count < len(s) && count < limit {
		switch digit := s[count]; {
		case digit >= '0' && digit <= '9':
			value = 10*value + int(digit-'0')
			count++
		default:
			break scan
		}
	}
	return value, count
}

// SplitFields returns the fields of a line in order, and true. Fields are maximal runs of bytes
// other than the space (byte 32); leading and trailing spaces are ignored. SplitFields returns
// nil and false if the line is longer than MaxLineLen bytes, contains a byte outside the range 32
// to 126, or has more than MaxFieldsPerLine fields. An empty line and a line of spaces have no
// fields.
func SplitFields(line string) ([]string, bool) {
	if len(line) > MaxLineLen || !isPrintable(line) {
		return nil, false
	}
	// strings.Fields splits at other white space, too, but a printable line has none.
	fields := strings.Fields(line)
	if len(fields) > MaxFieldsPerLine {
		return nil, false
	}
	for i, field := range fields {
		// A result shares no memory with an argument, and a part of a string would.
		fields[i] = strings.Clone(field)
	}
	return fields, true
}

// isPrintable reports whether all bytes of s are in the range 32 to 126.
func isPrintable(s string) bool {
	for i := range len(s) {
		if s[i] < 32 || s[i] > 126 {
			return false
		}
	}
	return true
}

// Clamp returns n clamped to the range low to high. If high is less than low, it returns low.
func Clamp(n int, low int, high int) int {
	return max(low, min(n, high))
}

// IsFinite reports whether neither part of z is NaN or infinite.
func IsFinite(z complex128) bool {
	return isFiniteFloat(real(z)) && isFiniteFloat(imag(z))
}

func isFiniteFloat(x float64) bool {
	return !math.IsNaN(x) && !math.IsInf(x, 0)
}

// SameSingle reports whether a and b are the same (see the conventions).
func SameSingle(a float32, b float32) bool {
	return sameFloat(float64(a), float64(b))
}

// SameComplex reports whether a and b are the same.
func SameComplex(a complex128, b complex128) bool {
	return sameFloat(real(a), real(b)) && sameFloat(imag(a), imag(b))
}

func sameFloat(a float64, b float64) bool {
	if math.IsNaN(a) || math.IsNaN(b) {
		return math.IsNaN(a) && math.IsNaN(b)
	}
	return a == b && math.Signbit(a) == math.Signbit(b)
}

// Signed returns +x and true if sign is "+", and -x and true if it is "-" (of a 0, too, the sign
// is turned). It returns 0 and false for any other sign.
func Signed(sign string, x float32) (float32, bool) {
	for _, row := range signTable(x) {
		if row.sign == sign {
			return row.value, true
		}
	}
	return 0, false
}

// signedValue is a row of the table of signs: a sign, and a number with this sign in front.
type signedValue struct {
	sign  string
	value float32
}

func signTable(x float32) [2]signedValue {
	return [2]signedValue{{"+", +x}, {"-", -x}}
}

// SignText returns "-" if x is less than 0 or is -0, "" if x is NaN, and "+" otherwise.
func SignText(x float32) string {
	wide := float64(x)
	switch {
	case math.IsNaN(wide):
		return ""
	case math.Signbit(wide):
		return "-"
	}
	return "+"
}

// SplitSingle returns the mantissa m and the exponent e for which the amount of x (x without its
// sign) is m times 2 to the power of e and m is odd, and true. It returns 0, 0 and true if x is 0
// or -0, and 0, 0 and false if x is not finite.
func SplitSingle(x float32) (int, int, bool) {
	wide := float64(x)
	if wide == 0 || !isFiniteFloat(wide) {
		return 0, 0, wide == 0
	}
	scale := scaler(math.Abs(wide))
	amount, exponent := scale(0), 0
	for ; amount != math.Trunc(amount); exponent-- {
		amount = scale(1)
	}
	for ; math.Mod(amount, 2) == 0; exponent++ {
		amount = scale(-1)
	}
	return int(amount), exponent, true
}

// scaler returns a closure that multiplies the amount by 2 to the given power, on top of all that
// it did before, and returns it. For the amounts of singles each step is exact in float64: its
// exponents go well beyond theirs on both sides.
func scaler(amount float64) func(power int) float64 {
	return func(power int) float64 {
		for ; power > 0; power-- {
			amount *= 2
		}
		for ; power < 0; power++ {
			amount /= 2
		}
		return amount
	}
}

// MakeSingle returns the single whose amount is m times 2 to the power of e, with the sign
// (Signed), and true. It returns 0 and false if sign is neither "+" nor "-", m is not in the
// range 0 to MaxMantissa, e is not in the range MinExponent to MaxExponent, or no finite float32
// has exactly this amount.
func MakeSingle(sign string, m int, e int) (float32, bool) {
	if m < 0 || m > MaxMantissa || e < MinExponent || e > MaxExponent {
		return 0, false
	}
	amount := scaler(float64(m))(e)
	x := float32(amount)
	if float64(x) != amount {
		return 0, false
	}
	return Signed(sign, x)
}

// FormatSingle returns "nan" for NaN; otherwise the SignText of x, and behind it "inf" if x is
// infinite, "0" if it is 0 or -0, and else the mantissa of SplitSingle in decimal, a "p", and the
// exponent in decimal (FormatInt). Examples: FormatSingle(0.75) is "+3p-2", FormatSingle(-6) is
// "-3p1".
func FormatSingle(x float32) string {
	wide := float64(x)
	switch {
	case math.IsNaN(wide):
		return "nan"
	case math.IsInf(wide, 0):
		return SignText(x) + "inf"
	case wide == 0:
		return SignText(x) + "0"
	}
	m, e, _ := SplitSingle(x)
	return SignText(x) + FormatInt(m) + "p" + FormatInt(e)
}

// ParseSingle returns the single x for which FormatSingle(x) is s, and true; 0 and false if there
// is none.
func ParseSingle(s string) (float32, bool) {
	x, ok := readSingle(s)
	// Other texts of the same number are told apart by writing it again.
	if !ok || FormatSingle(x) != s {
		return 0, false
	}
	return x, true
}

// readSingle reads all texts that FormatSingle writes, and some more, such as "+2p0".
func readSingle(s string) (float32, bool) {
	if s == "nan" {
		return float32(math.NaN()), true
	}
	if s == "" {
		return 0, false
	}
	sign, amount := s[:1], s[1:]
	switch amount {
	case "inf":
		return Signed(sign, float32(math.Inf(1)))
	case "0":
		return Signed(sign, 0)
	}
	mantissa, exponent, _ := strings.Cut(amount, "p")
	m, mantissaOk := ParseUint(mantissa)
	e, exponentOk := readExponent(exponent)
	if !mantissaOk || !exponentOk {
		return 0, false
	}
	return MakeSingle(sign, m, e)
}

func readExponent(s string) (int, bool) {
	digits, negative := strings.CutPrefix(s, "-")
	e, ok := ParseUint(digits)
	if negative {
		e = -e
	}
	return e, ok
}

// ReadDecimal reads a signed decimal number: a "+" or a "-", one digit or more, and, perhaps, a
// "." and one digit or more; at most MaxDigits digits in all. Let d be the digits, without the
// point, as a whole number, and k the number of digits behind the point. ReadDecimal returns the
// quotient of d and 10 to the power of k, both as float64, narrowed, with the sign (Signed), and
// true. It returns 0 and false if s has another form. Examples: ReadDecimal("-0.5") is -0.5 and
// true, ReadDecimal("5") is false.
func ReadDecimal(s string) (float32, bool) {
	if s == "" {
		return 0, false
	}
	sign, rest := s[:1], s[1:]
	digits, behind, ok := readDigits(rest)
	if !ok {
		return 0, false
	}
	power := 1.0
	for range behind {
		power *= 10
	}
	return Signed(sign, float32(float64(digits)/power))
}

// readDigits reads a decimal number without a sign and returns its digits as a whole number, how
// many of them stand behind the point, and whether s has the form that ReadDecimal tells.
func readDigits(s string) (int, int, bool) {
	whole, count := scanDigits(s, MaxDigits)
	if count == 0 || count == len(s) {
		return whole, 0, count > 0
	}
	if s[count] != '.' {
		return 0, 0, false
	}
	fraction := s[count+1:]
	part, behind := scanDigits(fraction, MaxDigits-count)
	if behind == 0 || behind != len(fraction) {
		return 0, 0, false
	}
	for range behind {
		whole *= 10
	}
	return whole + part, behind, true
}
