package tests

import (
	"math"
	"math/big"
	"math/rand/v2"
	"testing"

	"loop.example/g03320/impl"
)

func unitOf(sign string, mantissa int, exponent int) impl.Unit {
	return impl.Unit{Sign: sign, Mantissa: mantissa, Exponent: exponent}
}

// one is the unit 1, and half is 0.5.
func one() impl.Unit { return unitOf("+", 1, 0) }

func half() impl.Unit { return unitOf("+", 1, -1) }

// turnedUnit returns the unit with its sign turned.
func turnedUnit(u impl.Unit) impl.Unit {
	u.Sign = map[string]string{"+": "-", "-": "+"}[u.Sign]
	return u
}

// unitTold tells the value of a unit by means of exact numbers.
func unitTold(u impl.Unit) (float32, bool) {
	limits := u.Mantissa >= 1 && u.Mantissa < 1<<24 && u.Exponent >= -149 && u.Exponent <= 127
	if !limits || u.Sign != "+" && u.Sign != "-" {
		return 0, false
	}
	x, accuracy := rounded(0).SetMantExp(rounded(float64(u.Mantissa)), u.Exponent).Float32()
	if accuracy != big.Exact {
		return 0, false
	}
	if u.Sign == "-" {
		return flipped(x), true
	}
	return x, true
}

// validUnits returns units with every edge that a valid unit may have, with both signs.
func validUnits() []impl.Unit {
	var out []impl.Unit
	for _, u := range []impl.Unit{
		one(), half(), unitOf("+", 1, -149), unitOf("+", 1, 127), unitOf("+", 3, 126), unitOf("+", 2, 126), unitOf("+", 2, -149), unitOf("+", 1<<23, -149), unitOf("+", 1<<23-1, -149), unitOf("+", impl.MaxMantissa, -149), unitOf("+", impl.MaxMantissa, 104),
		unitOf("+", impl.MaxMantissa, 0), unitOf("+", impl.MaxMantissa, -24), unitOf("+", 3, 0), unitOf("+", 5, -4), unitOf("+", 10, 0), unitOf("+", 1<<23, 104), unitOf("+", 1<<23, 0), unitOf("+", 13421773, -27), unitOf("+", 1000003, -20), unitOf("+", 7, -149), unitOf("+", 1, -126),
	} {
		out = append(out, u, turnedUnit(u))
	}
	return out
}

// invalidUnits returns units without a value.
func invalidUnits() []impl.Unit {
	out := []impl.Unit{{}}
	for _, sign := range []string{"", " ", "+ ", "++", "--", "+-", "±", "0", "plus", "\x00", "−"} {
		out = append(out, unitOf(sign, 1, 0), unitOf(sign, 3, -2))
	}
	for _, sign := range []string{"+", "-"} {
		for _, m := range []int{0, -1, -3, impl.MaxMantissa + 1, impl.MaxMantissa + 2, -impl.MaxMantissa, 1<<32 + 1, math.MinInt, math.MaxInt} {
			out = append(out, unitOf(sign, m, 0), unitOf(sign, m, -149), unitOf(sign, m, 3))
		}
		for _, e := range []int{-150, -151, 128, 129, 1000, -1000, 1 << 32, math.MinInt, math.MaxInt} {
			out = append(out, unitOf(sign, 1, e), unitOf(sign, 1<<23, e))
		}
		// These are as great as 2 to the power of 128, or greater.
		for _, u := range []impl.Unit{unitOf(sign, 2, 127), unitOf(sign, 4, 126), unitOf(sign, 3, 127), unitOf(sign, impl.MaxMantissa, 105), unitOf(sign, 1<<23, 105), unitOf(sign, impl.MaxMantissa, 127)} {
			out = append(out, u)
		}
	}
	return out
}

// someUnit returns a valid unit of any size.
func someUnit(source *rand.Rand) impl.Unit {
	for {
		mantissa := 1 + source.IntN(1<<(1+source.IntN(24))-1)
		u := unitOf([]string{"+", "-"}[source.IntN(2)], mantissa, source.IntN(277)-149)
		if _, ok := unitTold(u); ok {
			return u
		}
	}
}

// manyUnits returns all kinds of valid units, the same ones each time.
func manyUnits(n int) []impl.Unit {
	source := rand.New(rand.NewPCG(10, 1))
	out := validUnits()
	for len(out) < n {
		out = append(out, someUnit(source))
	}
	return out
}

func TestUnitValue(t *testing.T) {
	cases := []struct {
		u    impl.Unit
		want float32
	}{
		{one(), 1}, {half(), 0.5}, {unitOf("-", 1, 0), -1}, {unitOf("-", 3, 1), -6}, {unitOf("+", 4, -1), 2}, {unitOf("+", 1, -149), leastSingle}, {unitOf("-", 1, -149), -leastSingle}, {unitOf("+", 1, 127), 0x1p127}, {unitOf("-", 1, 127), -0x1p127},
		{unitOf("+", impl.MaxMantissa, 0), 16777215}, {unitOf("+", impl.MaxMantissa, 104), greatestSingle}, {unitOf("-", impl.MaxMantissa, 104), -greatestSingle}, {unitOf("+", impl.MaxMantissa, -149), 0x1.fffffep-126}, {unitOf("+", 3, 126), 0x1.8p127},
	}
	for _, c := range cases {
		if got, ok := impl.UnitValue(c.u); !sameBits(got, c.want) || !ok {
			t.Errorf("UnitValue(%v) = %v, %v; want %v", c.u, got, ok, c.want)
		}
	}
	for _, u := range manyUnits(2000) {
		want, _ := unitTold(u)
		if got, ok := impl.UnitValue(u); !sameBits(got, want) || !ok {
			t.Errorf("UnitValue(%v) = %v, %v; want %v", u, got, ok, want)
		}
	}
}

func TestUnitValueOfEachExponent(t *testing.T) {
	for e := -152; e <= 130; e++ {
		for bits := range 25 {
			for _, m := range []int{1 << bits, 1<<bits - 1, 1<<bits + 1} {
				u := unitOf("-", m, e)
				want, wantOk := unitTold(u)
				if got, ok := impl.UnitValue(u); !sameBits(got, want) || ok != wantOk {
					t.Errorf("UnitValue(%v) = %v, %v; want %v, %v", u, got, ok, want, wantOk)
				}
			}
		}
	}
}

// TestUnitsWithoutAValue asks each function that takes one.
func TestUnitsWithoutAValue(t *testing.T) {
	for _, u := range invalidUnits() {
		if got, ok := impl.UnitValue(u); !sameBits(got, 0) || ok {
			t.Errorf("UnitValue(%v) = %v, %v", u, got, ok)
		}
		for _, x := range []float32{0, minusZero(), 1, -1, 5.5, notANumber(), infinite(1)} {
			holdsNoQuantum(t, x, u)
			holdsNoPair(t, complex(x, 0), u)
			if impl.EqualWithin(complex(x, x), complex(x, x), u) {
				t.Errorf("EqualWithin of %v and itself, with %v, is true", x, u)
			}
		}
		for _, n := range []int{0, 1, -1, 5, -1000, impl.MaxQuantum, impl.MaxQuantum + 1} {
			holdsInUnits(t, n, u, 0, false)
		}
	}
}

// quantumTold is QuantumOf in other words than the program: the quotient has 53 bits, and is
// rounded as a fraction.
func quantumTold(x float32, u impl.Unit) (int, bool) {
	unit, ok := unitTold(u)
	if !ok || !finiteWide(complex(float64(x), 0)) {
		return 0, false
	}
	q, _ := rounded(0).Quo(rounded(size(x)), rounded(size(unit))).Rat(nil)
	if q.Cmp(big.NewRat(1000000000, 1)) > 0 {
		return 0, false
	}
	q.Add(q, big.NewRat(1, 2))
	n := int(new(big.Int).Quo(q.Num(), q.Denom()).Int64())
	if (x < 0) != (unit < 0) {
		return -n, true
	}
	return n, true
}

// holdsQuantum asks for a number of units, and with the sign of the number, of the unit, or of
// both turned.
func holdsQuantum(t *testing.T, x float32, u impl.Unit, want int) {
	t.Helper()
	ask := func(x float32, u impl.Unit, want int) {
		t.Helper()
		if got, ok := impl.QuantumOf(x, u); got != want || !ok {
			t.Errorf("QuantumOf(%v, %v) = %d, %v; want %d", x, u, got, ok, want)
		}
	}
	ask(x, u, want)
	ask(flipped(x), u, -want)
	ask(x, turnedUnit(u), -want)
	ask(flipped(x), turnedUnit(u), want)
}

// holdsNoQuantum asks for 0 and false, also with the sign of the number turned.
func holdsNoQuantum(t *testing.T, x float32, u impl.Unit) {
	t.Helper()
	for _, x := range []float32{x, flipped(x)} {
		if got, ok := impl.QuantumOf(x, u); got != 0 || ok {
			t.Errorf("QuantumOf(%v, %v) = %d, %v", x, u, got, ok)
		}
	}
}

func TestQuantumOfRoundsHalvesAwayFromZero(t *testing.T) {
	for _, u := range []impl.Unit{one(), half(), unitOf("+", 1, 20), unitOf("+", 1, -130), unitOf("+", 3, 0), unitOf("-", 5, -4), unitOf("+", 1<<13-1, -3)} {
		unit, _ := unitTold(u)
		for n := range 300 {
			middle := (float32(n) + 0.5) * float32(size(unit))
			whole := float32(n) * float32(size(unit))
			plus := unitOf("+", u.Mantissa, u.Exponent)
			holdsQuantum(t, whole, plus, n)
			holdsQuantum(t, middle, plus, n+1)
			holdsQuantum(t, just(middle, 1), plus, n+1)
			holdsQuantum(t, just(middle, -1), plus, n)
			holdsQuantum(t, just(whole, 1), plus, n)
			if n > 0 {
				holdsQuantum(t, just(whole, -1), plus, n)
			}
		}
	}
}

func TestQuantumOf(t *testing.T) {
	least, greatest := unitOf("+", 1, -149), unitOf("+", impl.MaxMantissa, 104)
	cases := []struct {
		x    float32
		u    impl.Unit
		want int
	}{
		{1.25, half(), 3}, {0.2, half(), 0}, {0, half(), 0}, {0.25, half(), 1}, {just(0.25, -1), half(), 0}, {7, unitOf("+", 3, 0), 2}, {8, unitOf("+", 3, 0), 3}, {0.3, unitOf("+", 13421773, -27), 3}, {1e6, one(), 1000000},
		{leastSingle, least, 1}, {5 * leastSingle, least, 5}, {5 * leastSingle, unitOf("+", 2, -149), 3}, {leastSingle, unitOf("+", 2, -149), 1}, {leastSingle, unitOf("+", 3, -149), 0}, {leastSingle, one(), 0}, {leastSingle, greatest, 0}, {0, greatest, 0},
		{greatestSingle, greatest, 1}, {greatestSingle / 2, greatest, 1}, {just(greatestSingle/2, -1), greatest, 0}, {0x1p127, greatest, 1}, {greatestSingle, unitOf("+", 1, 127), 2}, {1e-10, one(), 0}, {0x1p127, unitOf("+", 1, 100), 1 << 27},
		// As a float32 each of these quotients lies half between two whole numbers.
		{9045761 << 20, unitOf("+", 16109088, 0), 588808}, {11608288 << 18, unitOf("+", 15264558, 0), 199353}, {16446154 << 18, unitOf("+", 13219394, 0), 326131},
		// The quotient lies just below a half, so closely that as a float64 it is there.
		{9963362 << 30, unitOf("+", 16388617, 0), 652774941},
	}
	for _, c := range cases {
		holdsQuantum(t, c.x, c.u, c.want)
	}
}

func TestQuantumOfUpToMaxQuantum(t *testing.T) {
	const most = impl.MaxQuantum
	if most != 1000000000 {
		t.Errorf("MaxQuantum is %d", most)
	}
	for _, power := range []int{0, 10, -40, 90} {
		u := unitOf("+", 1, power)
		holdsQuantum(t, scaled(most, power), u, most)
		holdsQuantum(t, scaled(just(most, -1), power), u, most-64)
		holdsNoQuantum(t, scaled(just(most, 1), power), u)
	}
	holdsQuantum(t, scaled(most, -149), unitOf("+", 1, -149), most)
	holdsQuantum(t, 3e9, unitOf("+", 3, 0), most)
	holdsNoQuantum(t, just(3e9, 1), unitOf("+", 3, 0))
	// Less than half a unit below, and above.
	holdsQuantum(t, 12530406<<30, unitOf("+", 13454421, 0), most)
	holdsQuantum(t, 10789413<<30, unitOf("+", 11585044, 0), most)
	holdsNoQuantum(t, 12758350<<30, unitOf("+", 13699174, 0))
	holdsNoQuantum(t, 16659908<<29, unitOf("+", 8944220, 0))
	holdsNoQuantum(t, 13985320<<30, unitOf("-", 15016623, 0))
	for _, x := range []float32{infinite(1), notANumber()} {
		for _, u := range validUnits() {
			holdsNoQuantum(t, x, u)
		}
	}
	for _, u := range []impl.Unit{one(), unitOf("-", 1, 0), unitOf("+", 1, -149), unitOf("-", 1, -149), unitOf("+", impl.MaxMantissa, -149), unitOf("+", 1, 97)} {
		holdsNoQuantum(t, greatestSingle, u)
	}
	holdsNoQuantum(t, 1, unitOf("+", 1, -149))
	holdsNoQuantum(t, 1, unitOf("-", 1, -30))
	holdsQuantum(t, 1, unitOf("-", 1, -29), -1<<29)
}

// numberFor returns a number that is often a whole number of halves of the unit, or lies just
// beside one.
func numberFor(source *rand.Rand, u impl.Unit) float32 {
	unit, _ := unitTold(u)
	halves := float64(source.IntN(1 << (1 + source.IntN(31))))
	x := narrowed(halves / 2 * float64(unit))
	switch source.IntN(8) {
	case 0, 1:
		x = just(x, 1)
	case 2, 3:
		x = just(x, -1)
	case 4:
		x = math.Float32frombits(source.Uint32())
	}
	if source.IntN(2) == 0 {
		return flipped(x)
	}
	return x
}

// TestQuantumOfManyNumbers has the second sentence of P10 in it.
func TestQuantumOfManyNumbers(t *testing.T) {
	source := rand.New(rand.NewPCG(10, 2))
	count := map[bool]int{}
	for _, u := range manyUnits(400) {
		for range 300 {
			x := numberFor(source, u)
			want, ok := quantumTold(x, u)
			count[ok]++
			if ok {
				holdsQuantum(t, x, u, want)
			} else {
				holdsNoQuantum(t, x, u)
			}
		}
		if t.Failed() {
			t.FailNow()
		}
	}
	if count[true] < 10000 || count[false] < 10000 {
		t.Errorf("%v", count)
	}
}

// inUnitsTold is InUnits in other words than the program, by means of exact numbers.
func inUnitsTold(n int, u impl.Unit) (float32, bool) {
	unit, ok := unitTold(u)
	if !ok || n < -1e9 || n > 1e9 {
		return 0, false
	}
	product, _ := rounded(0).Mul(rounded(float64(n)), rounded(float64(unit))).Float64()
	x := narrowed(product)
	if math.IsInf(float64(x), 0) {
		return 0, false
	}
	return x, true
}

// holdsInUnits asks for the number, in each bit, or for 0 and false.
func holdsInUnits(t *testing.T, n int, u impl.Unit, want float32, wantOk bool) {
	t.Helper()
	if got, ok := impl.InUnits(n, u); !sameBits(got, want) || ok != wantOk {
		t.Errorf("InUnits(%d, %v) = %x, %v; want %x, %v", n, u, got, ok, want, wantOk)
	}
}

func TestInUnits(t *testing.T) {
	const most = impl.MaxQuantum
	least, great, greatest := unitOf("+", 1, -149), unitOf("+", 1, 97), unitOf("+", impl.MaxMantissa, 104)
	cases := []struct {
		n    int
		u    impl.Unit
		want float32
	}{
		{7, half(), 3.5}, {0, one(), 0}, {0, greatest, 0}, {0, least, 0}, {1, one(), 1}, {1, greatest, greatestSingle}, {1, least, leastSingle}, {most, least, scaled(most, -149)}, {most, one(), 1e9}, {1 << 29, great, 0x1p126}, {most, great, scaled(most, 97)},
		{most, unitOf("+", 1, 98), scaled(most, 98)}, {1, unitOf("+", 1, 127), 0x1p127}, {3, unitOf("+", 5, -4), 0.9375}, {16777217, unitOf("+", 3, 0), 50331652}, {16777217, one(), 16777216}, {16777219, one(), 16777220}, {999999999, one(), 1e9},
		// A product of singles would come to another single.
		{78376852, unitOf("+", 15906458, 0), 0x1.1b7762p+50}, {558295643, unitOf("+", 16654454, 0), 0x1.0844a6p+53},
		// The product is rounded twice, and so comes to another single than the exact product.
		{707645887, unitOf("+", 15000001, 0), 0x1.2db008p+53}, {872084229, unitOf("+", 15000013, 0), 0x1.73caccp+53}, {624330031, unitOf("+", 15000015, 0), 0x1.0a2b0cp+53}, {710403553, unitOf("+", 15000031, 0), 0x1.2edd28p+53},
	}
	for _, c := range cases {
		holdsInUnits(t, c.n, c.u, c.want, true)
		holdsInUnits(t, c.n, turnedUnit(c.u), flipped(c.want), true)
		if c.n != 0 {
			holdsInUnits(t, -c.n, c.u, flipped(c.want), true)
			holdsInUnits(t, -c.n, turnedUnit(c.u), c.want, true)
		}
	}
}

func TestInUnitsRejects(t *testing.T) {
	for _, u := range validUnits() {
		for _, n := range []int{impl.MaxQuantum + 1, impl.MaxQuantum + 2, 1 << 30, 1 << 32, math.MaxInt, math.MinInt} {
			holdsInUnits(t, n, u, 0, false)
			holdsInUnits(t, -n, u, 0, false)
		}
	}
	// Products past the greatest single, of which the least ones would be narrowed to it still.
	for _, sign := range []string{"+", "-"} {
		for _, n := range []int{2, 3, 100, impl.MaxQuantum} {
			holdsInUnits(t, n, unitOf(sign, impl.MaxMantissa, 104), 0, false)
			holdsInUnits(t, -n, unitOf(sign, 1, 127), 0, false)
		}
		holdsInUnits(t, impl.MaxQuantum, unitOf(sign, 1, 99), 0, false)
		holdsInUnits(t, 1<<25-1, unitOf(sign, 1, 103), 0, false)
		holdsInUnits(t, 1-1<<25, unitOf(sign, 1, 103), 0, false)
	}
	holdsInUnits(t, 1<<26-3, unitOf("+", 1, 102), greatestSingle, true)
	holdsInUnits(t, 3-1<<26, unitOf("+", 1, 102), -greatestSingle, true)
	holdsInUnits(t, 1<<26-2, unitOf("+", 1, 102), 0, false)
}

func TestInUnitsOfManyNumbers(t *testing.T) {
	source := rand.New(rand.NewPCG(10, 3))
	count := map[bool]int{}
	for _, u := range manyUnits(500) {
		for range 100 {
			n := source.IntN(1<<(1+source.IntN(30))) * (1 - 2*source.IntN(2))
			want, ok := inUnitsTold(n, u)
			count[ok]++
			holdsInUnits(t, n, u, want, ok)
			if ok && n != 0 && want == 0 {
				t.Errorf("%d units %v are 0", n, u)
			}
		}
	}
	if count[true] < 10000 || count[false] < 1000 {
		t.Errorf("%v", count)
	}
}

// TestWholeNumbersOfUnitsAreTold is the first sentence of P10.
func TestWholeNumbersOfUnitsAreTold(t *testing.T) {
	source := rand.New(rand.NewPCG(10, 4))
	count := 0
	for _, u := range manyUnits(300) {
		numbers := []int{0, 1, 2, 3, 10, 999, 499999, 524287, 524288, 524289, 999998, 999999, 1000000}
		for range 200 {
			numbers = append(numbers, source.IntN(1000001))
		}
		for _, n := range numbers {
			x, ok := impl.InUnits(n, u)
			if ok {
				holdsQuantum(t, x, u, n)
				count++
			}
			if y, again := impl.InUnits(-n, u); again != ok || ok && n != 0 && !sameBits(y, flipped(x)) {
				t.Errorf("InUnits(%d, %v) = %v, %v", -n, u, y, again)
			}
		}
	}
	if count < 40000 {
		t.Errorf("%d numbers of units", count)
	}
}
