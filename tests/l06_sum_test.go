package tests

import (
	"math"
	"math/big"
	"math/rand/v2"
	"slices"
	"testing"

	"loop.example/g03320/impl"
)

// far is so great that a small number added to it is lost.
const far = 0x1p60

// alike returns n elements x.
func alike(x float32, n int) []float32 { return slices.Repeat([]float32{x}, n) }

// rounded returns a number with the precision of a float64, to which all operations on it round.
func rounded(x float64) *big.Float { return new(big.Float).SetPrec(53).SetFloat64(x) }

// roundedSum returns the float64 sum, by means of exact numbers.
func roundedSum(a float64, b float64) float64 {
	sum, _ := rounded(0).Add(rounded(a), rounded(b)).Float64()
	return sum
}

// roundedQuotient returns the float64 quotient, by means of exact numbers.
func roundedQuotient(a float64, b float64) float64 {
	quotient, _ := rounded(0).Quo(rounded(a), rounded(b)).Float64()
	return quotient
}

// narrowed returns x as the nearest single, by means of exact numbers.
func narrowed(x float64) float32 {
	single, _ := rounded(x).Float32()
	return single
}

// orderedSum tells the sum in order, in other words than the program.
func orderedSum(list []float32) float64 {
	sum := 0.0
	for i := range list {
		sum = roundedSum(sum, float64(list[i]))
	}
	return sum
}

// halvedSum tells the sum by halves of the elements from start up to end, in other words than the program.
func halvedSum(list []float32, start int, end int) float64 {
	switch end - start {
	case 0:
		return 0
	case 1:
		return float64(list[start])
	}
	middle := start + (end-start-(end-start)%2)/2
	return roundedSum(halvedSum(list, start, middle), halvedSum(list, middle, end))
}

// amounts tells the sum of the amounts.
func amounts(list []float32) float64 {
	sum := 0.0
	for _, x := range list {
		sum += size(x)
	}
	return sum
}

// turnedSigns returns the list with all signs turned.
func turnedSigns(list []float32) []float32 {
	out := make([]float32, len(list))
	for i, x := range list {
		out[i] = flipped(x)
	}
	return out
}

// finiteSingle returns a finite single of any bits.
func finiteSingle(source *rand.Rand) float32 {
	for {
		x := math.Float32frombits(source.Uint32())
		if !math.IsNaN(float64(x)) && !math.IsInf(float64(x), 0) {
			return x
		}
	}
}

// someElement returns an element of one of the kinds of lists.
func someElement(source *rand.Rand, kind int, place int) float32 {
	sign := float32(1 - 2*source.IntN(2))
	switch kind {
	case 0:
		return float32(source.IntN(19) - 9)
	case 1:
		return finiteSingle(source)
	case 2: // close to one number
		return 1000 + float32(source.IntN(9))*0x1p-14
	case 3: // subnormals and both zeros
		return sign * math.Float32frombits(uint32(source.IntN(4)))
	case 4: // both zeros
		return float32(math.Copysign(0, float64(sign)))
	case 5: // numbers that take each other away, and small ones beside them
		return sign * []float32{far, far, 1, 3, 0x1p30}[source.IntN(5)]
	case 6: // close to a line
		return 0.1*float32(place) + float32(source.IntN(3))*0x1p-20
	case 7: // the greatest ones
		return sign * []float32{greatestSingle, just(greatestSingle, -1)}[source.IntN(2)]
	case 8:
		return sign * float32(source.IntN(1<<24))
	}
	// Of different amounts, none of which is lost altogether.
	return sign * scaled(float32(source.IntN(1<<24)), source.IntN(60)-30)
}

// manyLists returns good lists of each kind and size, the same ones each time.
func manyLists(rounds int) [][]float32 {
	source := rand.New(rand.NewPCG(6, 64))
	lists := [][]float32{nil, {}}
	for range rounds {
		for n := range impl.MaxList + 1 {
			list := make([]float32, n)
			kind := source.IntN(12)
			for i := range list {
				list[i] = someElement(source, kind, i)
			}
			lists = append(lists, list)
		}
	}
	return lists
}

// badLists returns lists that are not good: with an element that is not finite at each place, and with too many.
func badLists() [][]float32 {
	lists := [][]float32{alike(0, impl.MaxList+1), alike(1, impl.MaxList+1), alike(-2, 1000), alike(notANumber(), impl.MaxList+1)}
	for _, bad := range []float32{notANumber(), infinite(1), infinite(-1)} {
		for _, n := range []int{1, 2, 3, 4, 5, impl.MaxList} {
			for _, place := range []int{0, n / 2, n - 1} {
				list := alike(1, n)
				list[place] = bad
				lists = append(lists, list)
			}
		}
		lists = append(lists, alike(bad, 2), alike(bad, impl.MaxList))
	}
	return append(lists, []float32{infinite(1), infinite(-1)}, []float32{notANumber(), infinite(-1), 0})
}

// holdsSums asks for both sums, in each sign.
func holdsSums(t *testing.T, list []float32, inOrder float64, byHalves float64) {
	t.Helper()
	if got, ok := impl.SumInOrder(list); !ok || !sameDoubles(got, inOrder) {
		t.Errorf("SumInOrder(%v) = %x, %v; want %x, true", list, got, ok, inOrder)
	}
	if got, ok := impl.PairSum(list); !ok || !sameDoubles(got, byHalves) {
		t.Errorf("PairSum(%v) = %x, %v; want %x, true", list, got, ok, byHalves)
	}
}

func TestMaxList(t *testing.T) {
	if impl.MaxList != 64 {
		t.Error("MaxList is", impl.MaxList)
	}
}

func TestSumsOfFewElements(t *testing.T) {
	minus := math.Copysign(0, -1)
	holdsSums(t, nil, 0, 0)
	holdsSums(t, []float32{}, 0, 0)
	for _, x := range []float32{1, -2.5, leastSingle, -leastSingle, greatestSingle, -greatestSingle} {
		holdsSums(t, []float32{x}, float64(x), float64(x))
	}
	holdsSums(t, []float32{1, 2}, 3, 3)
	holdsSums(t, []float32{1, 2, 3, 6}, 12, 12)
	holdsSums(t, []float32{greatestSingle, greatestSingle}, 2*greatestSingle, 2*greatestSingle)
	holdsSums(t, []float32{0x1p24, 1}, 0x1p24+1, 0x1p24+1)
	// The sum in order starts from 0, so that it is never -0.
	holdsSums(t, []float32{minusZero()}, 0, minus)
	holdsSums(t, []float32{minusZero(), minusZero()}, 0, minus)
	holdsSums(t, alike(minusZero(), impl.MaxList), 0, minus)
	holdsSums(t, []float32{0}, 0, 0)
	holdsSums(t, []float32{minusZero(), 0}, 0, 0)
	holdsSums(t, []float32{0, minusZero()}, 0, 0)
	holdsSums(t, []float32{-5, 5}, 0, 0)
}

func TestSumsKeepToTheirOrder(t *testing.T) {
	const wide = 0x1p53
	holdsSums(t, []float32{wide, 1, 1}, wide, wide+2)
	holdsSums(t, []float32{1, 1, wide}, wide+2, wide)
	holdsSums(t, []float32{far, -far, 1}, 1, 0)
	holdsSums(t, []float32{1, far, -far}, 0, 1)
	holdsSums(t, []float32{wide, 1, 1, 1}, wide, wide+2)
	holdsSums(t, []float32{1, far, -far, 1}, 1, 0)
	// Of five elements two stand in the first half, and of three one: else the sum by halves of the next one were 0.
	holdsSums(t, []float32{1, 2, far, -far, 4}, 4, 3)
	holdsSums(t, []float32{far, 1, -far, 8, far, -far}, 0, 8)
	holdsSums(t, []float32{1, far, -far, 2, far, -far, 4}, 4, 1)
	most := alike(1, impl.MaxList)
	most[0] = wide
	holdsSums(t, most, wide, wide+62)
}

func TestSumsOfManyLists(t *testing.T) {
	apart := 0
	for _, list := range manyLists(40) {
		inOrder, byHalves := orderedSum(list), halvedSum(list, 0, len(list))
		holdsSums(t, list, inOrder, byHalves)
		if inOrder != byHalves {
			apart++
		}
	}
	if apart < 200 {
		t.Error("only", apart, "lists tell the two sums apart")
	}
}

func TestTheTwoSumsAreClose(t *testing.T) {
	for _, list := range manyLists(40) {
		inOrder, _ := impl.SumInOrder(list)
		byHalves, _ := impl.PairSum(list)
		if !(math.Abs(inOrder-byHalves) <= 1e-12*amounts(list)) {
			t.Errorf("the sums of %v are %x and %x", list, inOrder, byHalves)
		}
	}
}

func TestSumsReject(t *testing.T) {
	for _, list := range badLists() {
		if got, ok := impl.SumInOrder(list); ok || !sameDoubles(got, 0) {
			t.Errorf("SumInOrder(%v) = %v, %v; want 0, false", list, got, ok)
		}
		if got, ok := impl.PairSum(list); ok || !sameDoubles(got, 0) {
			t.Errorf("PairSum(%v) = %v, %v; want 0, false", list, got, ok)
		}
	}
}
