package tests

import (
	"math"
	"math/big"
	"regexp"
	"slices"
	"strconv"
	"strings"
	"testing"

	"loop.example/g03203/impl"
)

// The products of up to ten radices that are next to MaxNumber.
var (
	radicesOfMax   = []int{2, 32, 50, 50, 50, 50, 50, 50}
	radicesBelow   = []int{6, 31, 31, 37, 37, 46, 51, 54}
	radicesAbove   = []int{43, 44, 53, 53, 56, 56, 60}
	tenOfMax       = []int{50, 50, 40, 10, 10, 10, 10, 10, 10, 10}
	tenDifferent   = []int{2, 3, 4, 5, 6, 7, 8, 9, 10, 11}
	clock          = []int{60, 60, 24}
	longestRadices = slices.Repeat([]int{2}, 10)
)

// tinySystems are radices with so small a range that all its numbers and pairs can be tried.
func tinySystems() [][]int {
	return [][]int{{2}, {3}, {60}, {2, 2}, {2, 3}, {3, 2}, {2, 60}, {60, 2}, {5, 5, 5}, {4, 2, 7}, {2, 3, 4, 5}, {2, 2, 2, 2, 2, 2}}
}

// mixedSystems are radices of all lengths, up to a range of MaxNumber.
func mixedSystems() [][]int {
	lists := append(tinySystems(), clock, []int{24, 60, 60}, []int{60, 60, 60, 60, 60, 60}, []int{59, 60, 2}, radicesOfMax, radicesBelow, tenOfMax, tenDifferent, longestRadices)
	for _, list := range [][]int{radicesOfMax, radicesBelow, tenOfMax, tenDifferent} {
		turned := slices.Clone(list)
		slices.Reverse(turned)
		lists = append(lists, turned)
	}
	for count := 1; count <= 10; count++ {
		lists = append(lists, slices.Repeat([]int{2}, count), slices.Repeat([]int{15}, count), slices.Repeat([]int{10}, count), slices.Repeat([]int{3, 7}, 5)[:count])
	}
	return lists
}

// noRadices lists what are no radices.
func noRadices() [][]int {
	lists := [][]int{
		nil, {}, {1}, {0}, {-1}, {-2}, {-60}, {61}, {62}, {100}, {1000}, {math.MinInt64}, {math.MinInt64 + 1}, {math.MaxInt64}, {math.MaxInt64 - 1},
		{1, 1}, {-2, -2}, {-1, -1}, {0, 0}, {1 << 32, 1 << 32}, {math.MinInt64, 2}, {2, math.MaxInt64}, {math.MinInt64, math.MinInt64}, {60, 60, 24, 1}, {60, 60, 24, 0},
		radicesAbove, slices.Repeat([]int{60}, 7), slices.Repeat([]int{60}, 8), slices.Repeat([]int{60}, 10), slices.Repeat([]int{60}, 11), slices.Repeat([]int{16}, 10),
		slices.Repeat([]int{1}, 10), slices.Repeat([]int{2}, 11), slices.Repeat([]int{2}, 12), slices.Repeat([]int{2}, 60), slices.Repeat([]int{2}, 64), slices.Repeat([]int{2}, 65),
		slices.Repeat([]int{16}, 16), slices.Repeat([]int{2}, 3000), append(slices.Clone(longestRadices), 1), append([]int{1}, longestRadices...),
		append(slices.Clone(radicesOfMax), 2), append([]int{2}, radicesOfMax...), append(slices.Clone(radicesBelow), 2), append(slices.Clone(tenOfMax), 1),
	}
	for _, list := range [][]int{{2}, {60, 60, 24}, tenDifferent, longestRadices} {
		for k := range list {
			for _, wrong := range []int{1, 0, -1, -2, 61, math.MinInt64, math.MaxInt64} {
				changed := slices.Clone(list)
				changed[k] = wrong
				lists = append(lists, changed)
			}
		}
	}
	for k := range tenOfMax {
		changed := slices.Clone(tenOfMax)
		changed[k]++
		lists = append(lists, changed)
	}
	return lists
}

func productOf(list []int) *big.Int {
	product := big.NewInt(1)
	for _, x := range list {
		product.Mul(product, big.NewInt(int64(x)))
	}
	return product
}

func areRadices(list []int) bool {
	for _, x := range list {
		if x < 2 || x > 60 {
			return false
		}
	}
	return len(list) >= 1 && len(list) <= 10 && productOf(list).Cmp(big.NewInt(maxNumber)) <= 0
}

// rangeOf is also what the place behind the given radices counts.
func rangeOf(radices []int) int { return int(productOf(radices).Int64()) }

func mixedNumber(digits, radices []int) int {
	n := 0
	for k, d := range digits {
		n += d * rangeOf(radices[:k])
	}
	return n
}

// mixedList takes the greatest place first, unlike the program.
func mixedList(n int, radices []int) []int {
	list := make([]int, len(radices))
	for k := len(radices) - 1; k >= 0; k-- {
		place := rangeOf(radices[:k])
		list[k] = n / place
		n %= place
	}
	return list
}

// countUp changes digits to those of the next number, like the wheels of a counter.
func countUp(digits, radices []int) {
	for k := range digits {
		if digits[k]++; digits[k] < radices[k] {
			return
		}
		digits[k] = 0
	}
}

// mixedNumbers lists numbers below the range: those beside the places and their multiples, both ends, and some between.
func mixedNumbers(radices []int) []int {
	size := rangeOf(radices)
	list := []int{0, 1, 2, size / 2, size / 3, size - 2, size - 1}
	for k, radix := range radices {
		place := rangeOf(radices[:k])
		list = append(list, place-1, place, place+1, place*(radix-1), place*(radix-1)-1, place*radix-1, place*radix, size-place, size-1-place, size-place*(radix-1))
	}
	for n := 1; n < size; n = n*7 + 3 {
		list = append(list, n)
	}
	list = slices.DeleteFunc(list, func(n int) bool { return n < 0 || n >= size })
	slices.Sort(list)
	return slices.Compact(list)
}

func checkRadices(t *testing.T, list []int) {
	t.Helper()
	good := areRadices(list)
	if got := impl.RadicesOk(list); got != good {
		t.Errorf("RadicesOk(%v) = %v", list, got)
	}
	size, places := 0, []int{}
	if good {
		size = rangeOf(list)
		for k := range list {
			places = append(places, rangeOf(list[:k]))
		}
	}
	if got := impl.RangeOf(list); got != size {
		t.Errorf("RangeOf(%v) = %d, want %d", list, got, size)
	}
	if got := impl.PlacesOf(list); !slices.Equal(got, places) {
		t.Errorf("PlacesOf(%v) = %v, want %v", list, got, places)
	}
}

func TestRadices(t *testing.T) {
	for _, list := range listsOver([]int{math.MinInt64, -1, 0, 1, 2, 3, 59, 60, 61, math.MaxInt64}, 3) {
		checkRadices(t, list)
	}
	for n := -70; n <= 200; n++ {
		checkRadices(t, []int{n})
		checkRadices(t, []int{2, n})
		checkRadices(t, append(slices.Clone(longestRadices[1:]), n))
	}
	for _, list := range mixedSystems() {
		if !areRadices(list) {
			t.Errorf("%v are no radices", list)
		}
		checkRadices(t, list)
	}
	for _, list := range noRadices() {
		if areRadices(list) {
			t.Errorf("%v are radices", list)
		}
		checkRadices(t, list)
	}
	for x := 2; x <= 60; x++ {
		for count := range 14 {
			checkRadices(t, slices.Repeat([]int{x}, count))
			checkRadices(t, append(slices.Repeat([]int{60}, 6), slices.Repeat([]int{x}, count)...))
		}
	}
}

func TestRadicesTable(t *testing.T) {
	cases := []struct {
		radices []int
		size    int
		places  []int
	}{
		{nil, 0, nil}, {[]int{}, 0, nil}, {[]int{1}, 0, nil}, {[]int{2}, 2, []int{1}}, {[]int{60}, 60, []int{1}}, {[]int{61}, 0, nil}, {[]int{0}, 0, nil}, {[]int{-2}, 0, nil},
		{clock, 86400, []int{1, 60, 3600}}, {[]int{24, 60, 60}, 86400, []int{1, 24, 1440}},
		{radicesOfMax, maxNumber, []int{1, 2, 64, 3200, 160000, 8000000, 400000000, 20000000000}},
		{tenOfMax, maxNumber, []int{1, 50, 2500, 100000, 1000000, 10000000, 100000000, 1000000000, 10000000000, 100000000000}},
		{radicesBelow, 999999663336, []int{1, 6, 186, 5766, 213342, 7893654, 363108084, 18518512284}},
		{radicesAbove, 0, nil}, {slices.Repeat([]int{60}, 10), 0, nil}, {slices.Repeat([]int{60}, 6), 46656000000, []int{1, 60, 3600, 216000, 12960000, 777600000}}, {slices.Repeat([]int{60}, 7), 0, nil},
		{longestRadices, 1024, []int{1, 2, 4, 8, 16, 32, 64, 128, 256, 512}}, {slices.Repeat([]int{2}, 11), 0, nil}, {tenDifferent, 39916800, []int{1, 2, 6, 24, 120, 720, 5040, 40320, 362880, 3628800}},
	}
	for _, c := range cases {
		ok, size, places := impl.RadicesOk(c.radices), impl.RangeOf(c.radices), impl.PlacesOf(c.radices)
		if ok != (c.size > 0) || size != c.size || !slices.Equal(places, c.places) {
			t.Errorf("%v: %v, %d, %v, want %d, %v", c.radices, ok, size, places, c.size, c.places)
		}
	}
	if above := productOf(radicesAbove); above.Cmp(big.NewInt(1000000404480)) != 0 {
		t.Errorf("the product of %v is %v", radicesAbove, above)
	}
}

// checkMixed asks every function for one number and its digits.
func checkMixed(t *testing.T, n int, list, radices []int) {
	t.Helper()
	if got := impl.MixedDigits(n, radices); !slices.Equal(got, list) {
		t.Errorf("MixedDigits(%d, %v) = %v, want %v", n, radices, got, list)
	}
	if !impl.MixedOk(list, radices) {
		t.Errorf("MixedOk(%v, %v) is false", list, radices)
	}
	if got := impl.MixedValue(list, radices); got != n {
		t.Errorf("MixedValue(%v, %v) = %d, want %d", list, radices, got, n)
	}
	next := slices.Clone(list)
	countUp(next, radices)
	if got := impl.NextMixed(list, radices); !slices.Equal(got, next) {
		t.Errorf("NextMixed(%v, %v) = %v, want %v", list, radices, got, next)
	}
}

func TestMixedDigitsCountUp(t *testing.T) {
	for _, radices := range append(tinySystems(), clock, longestRadices, []int{7, 11, 13, 2}) {
		list := make([]int, len(radices))
		for n := range rangeOf(radices) {
			checkMixed(t, n, list, radices)
			countUp(list, radices)
		}
		if sumOf(list) != 0 {
			t.Errorf("behind the last number of %v comes %v", radices, list)
		}
	}
}

func TestMixedDigitsOfNumbers(t *testing.T) {
	for _, radices := range mixedSystems() {
		for _, n := range mixedNumbers(radices) {
			list := mixedList(n, radices)
			if mixedNumber(list, radices) != n {
				t.Fatalf("%v are not the digits of %d", list, n)
			}
			checkMixed(t, n, list, radices)
		}
	}
}

func TestMixedDigitsTable(t *testing.T) {
	cases := []struct {
		n       int
		radices []int
		want    []int
	}{
		{3723, clock, []int{3, 2, 1}}, {0, clock, []int{0, 0, 0}}, {1, clock, []int{1, 0, 0}}, {59, clock, []int{59, 0, 0}}, {60, clock, []int{0, 1, 0}}, {3599, clock, []int{59, 59, 0}},
		{3600, clock, []int{0, 0, 1}}, {86399, clock, []int{59, 59, 23}}, {86400, clock, nil}, {86401, clock, nil}, {-1, clock, nil}, {2 * 86400, clock, nil},
		{0, []int{2}, []int{0}}, {1, []int{2}, []int{1}}, {2, []int{2}, nil}, {59, []int{60}, []int{59}}, {60, []int{60}, nil}, {0, longestRadices, make([]int, 10)},
		{maxNumber - 1, tenOfMax, []int{49, 49, 39, 9, 9, 9, 9, 9, 9, 9}}, {maxNumber, tenOfMax, nil}, {maxNumber + 1, tenOfMax, nil},
		{987654321012, tenOfMax, []int{12, 20, 8, 3, 4, 5, 6, 7, 8, 9}}, {999999663335, radicesBelow, []int{5, 30, 30, 36, 36, 45, 50, 53}}, {999999663336, radicesBelow, nil},
	}
	for _, c := range cases {
		if got := impl.MixedDigits(c.n, c.radices); !slices.Equal(got, c.want) {
			t.Errorf("MixedDigits(%d, %v) = %v, want %v", c.n, c.radices, got, c.want)
		}
	}
}

func TestNoMixedDigits(t *testing.T) {
	for _, radices := range mixedSystems() {
		size := rangeOf(radices)
		beyond := []int{math.MinInt64, math.MinInt64 + 1, -maxNumber, -size - 1, -size, 1 - size, -2, -1, size, size + 1, 2*size - 1, 2 * size, maxNumber, maxNumber + 1, math.MaxInt64 - 1, math.MaxInt64}
		for _, n := range beyond {
			if got := impl.MixedDigits(n, radices); len(got) != 0 && (n < 0 || n >= size) {
				t.Errorf("MixedDigits(%d, %v) = %v", n, radices, got)
			}
		}
	}
	for _, radices := range noRadices() {
		for _, n := range []int{math.MinInt64, -1, 0, 1, 2, 59, 60, 61, maxNumber, math.MaxInt64} {
			if got := impl.MixedDigits(n, radices); len(got) != 0 {
				t.Errorf("MixedDigits(%d, %v) = %v", n, radices, got)
			}
		}
	}
}

// wrongMixedLists lists what are no mixed digits for these radices.
func wrongMixedLists(radices []int) [][]int {
	count := len(radices)
	greatest := slices.Clone(radices)
	for k := range greatest {
		greatest[k]--
	}
	lists := [][]int{
		nil, {}, make([]int, count-1), make([]int, count+1), make([]int, 2*count), make([]int, 3000), greatest[1:], greatest[:count-1], radices,
		append(slices.Clone(greatest), 0), append(slices.Clone(greatest), 1), append([]int{0}, greatest...), slices.Repeat([]int{-1}, count), slices.Repeat([]int{1}, count+1),
	}
	for k := range radices {
		for _, wrong := range []int{-1, -2, -radices[k], radices[k], radices[k] + 1, 2 * radices[k], math.MinInt64, math.MaxInt64} {
			for _, right := range [][]int{make([]int, count), greatest} {
				changed := slices.Clone(right)
				changed[k] = wrong
				lists = append(lists, changed)
			}
		}
	}
	return lists
}

// checkMixedRefused asks every function for a and c, of which one is wrong, or for wrong radices.
func checkMixedRefused(t *testing.T, a, c, radices []int) {
	t.Helper()
	if sum, carry := impl.MixedAdd(a, c, radices); len(sum) != 0 || carry != -1 {
		t.Errorf("MixedAdd(%v, %v, %v) = %v, %d", a, c, radices, sum, carry)
	}
	if got := impl.MixedCarries(a, c, radices); got != -1 {
		t.Errorf("MixedCarries(%v, %v, %v) = %d", a, c, radices, got)
	}
}

func checkOneMixedRefused(t *testing.T, list, radices []int) {
	t.Helper()
	if impl.MixedOk(list, radices) {
		t.Errorf("MixedOk(%v, %v) is true", list, radices)
	}
	if got := impl.MixedValue(list, radices); got != -1 {
		t.Errorf("MixedValue(%v, %v) = %d", list, radices, got)
	}
	if got := impl.NextMixed(list, radices); len(got) != 0 {
		t.Errorf("NextMixed(%v, %v) = %v", list, radices, got)
	}
}

func TestMixedPlacesOfWrongLists(t *testing.T) {
	for _, radices := range mixedSystems() {
		for _, wrong := range wrongMixedLists(radices) {
			for _, right := range [][]int{make([]int, len(radices)), slices.Repeat([]int{1}, len(radices))} {
				checkMixedRefused(t, wrong, right, radices)
				checkMixedRefused(t, right, wrong, radices)
			}
			checkMixedRefused(t, wrong, wrong, radices)
			checkOneMixedRefused(t, wrong, radices)
		}
	}
}

func TestMixedPlacesOfWrongRadices(t *testing.T) {
	for _, radices := range noRadices() {
		zeros := make([]int, len(radices))
		ones := slices.Repeat([]int{1}, len(radices))
		for _, a := range [][]int{nil, {0}, {1}, zeros, ones} {
			for _, c := range [][]int{nil, {0}, zeros, ones} {
				checkMixedRefused(t, a, c, radices)
			}
			checkOneMixedRefused(t, a, radices)
		}
	}
}

func TestMixedOkOfAllShortLists(t *testing.T) {
	for _, radices := range [][]int{{2}, {2, 3}, {3, 2}, {2, 3, 4}, {4, 3, 2}} {
		for _, list := range listsOver(upTo(-1, 4), 4) {
			want := len(list) == len(radices)
			for k := range list {
				want = want && list[k] >= 0 && list[k] < radices[k]
			}
			value := -1
			if want {
				value = mixedNumber(list, radices)
			}
			if ok, got := impl.MixedOk(list, radices), impl.MixedValue(list, radices); ok != want || got != value {
				t.Errorf("MixedOk(%v, %v) = %v, and the value is %d", list, radices, ok, got)
			}
		}
	}
}

// checkMixedPair adds two numbers. A place carries exactly if the places up to it reach what the next one counts.
func checkMixedPair(t *testing.T, m, n int, radices []int) {
	t.Helper()
	a, c := mixedList(m, radices), mixedList(n, radices)
	size := rangeOf(radices)
	count := 0
	for k := range radices {
		next := rangeOf(radices[:k+1])
		if m%next+n%next >= next {
			count++
		}
	}
	sum, carry := impl.MixedAdd(a, c, radices)
	if !slices.Equal(sum, mixedList((m+n)%size, radices)) || carry != (m+n)/size {
		t.Errorf("MixedAdd(%v, %v, %v) = %v, %d", a, c, radices, sum, carry)
	}
	if got := impl.MixedCarries(a, c, radices); got != count {
		t.Errorf("MixedCarries(%v, %v, %v) = %d, want %d", a, c, radices, got, count)
	}
}

func TestMixedSumsOfSmallNumbers(t *testing.T) {
	for _, radices := range tinySystems() {
		for m := range rangeOf(radices) {
			for n := range rangeOf(radices) {
				checkMixedPair(t, m, n, radices)
			}
		}
	}
}

func TestMixedSumsOfGreatNumbers(t *testing.T) {
	for _, radices := range [][]int{clock, radicesOfMax, radicesBelow, tenOfMax, tenDifferent, longestRadices} {
		size := rangeOf(radices)
		list := mixedNumbers(radices)
		for i, m := range list {
			checkMixedPair(t, m, size-1-m, radices)
			checkMixedPair(t, m, (size-m)%size, radices)
			checkMixedPair(t, m, m, radices)
			for _, n := range list[i%5:] {
				if (m+n)%3 == 0 {
					checkMixedPair(t, m, n, radices)
				}
			}
		}
	}
}

func TestMixedSumsTable(t *testing.T) {
	greatest := []int{49, 49, 39, 9, 9, 9, 9, 9, 9, 9}
	cases := []struct {
		a, c, radices, sum []int
		carry, carries     int
	}{
		{[]int{59, 59, 23}, []int{1, 0, 0}, clock, []int{0, 0, 0}, 1, 3}, {[]int{59, 59, 23}, []int{0, 0, 0}, clock, []int{59, 59, 23}, 0, 0},
		{[]int{0, 0, 0}, []int{0, 0, 0}, clock, []int{0, 0, 0}, 0, 0}, {[]int{30, 0, 0}, []int{29, 0, 0}, clock, []int{59, 0, 0}, 0, 0},
		{[]int{30, 0, 0}, []int{30, 0, 0}, clock, []int{0, 1, 0}, 0, 1}, {[]int{0, 30, 0}, []int{0, 31, 0}, clock, []int{0, 1, 1}, 0, 1}, {[]int{0, 0, 12}, []int{0, 0, 12}, clock, []int{0, 0, 0}, 1, 1},
		{[]int{1, 2, 20}, []int{3, 4, 5}, clock, []int{4, 6, 1}, 1, 1}, {[]int{59, 0, 12}, []int{1, 0, 12}, clock, []int{0, 1, 0}, 1, 2}, {[]int{59, 59, 0}, []int{1, 0, 0}, clock, []int{0, 0, 1}, 0, 2},
		{[]int{59, 59, 23}, []int{59, 59, 23}, clock, []int{58, 59, 23}, 1, 3}, {[]int{59, 29, 11}, []int{0, 30, 12}, clock, []int{59, 59, 23}, 0, 0}, {[]int{59, 29, 11}, []int{1, 30, 12}, clock, []int{0, 0, 0}, 1, 3},
		{[]int{1}, []int{1}, []int{2}, []int{0}, 1, 1}, {[]int{0}, []int{1}, []int{2}, []int{1}, 0, 0}, {[]int{59}, []int{59}, []int{60}, []int{58}, 1, 1}, {[]int{30}, []int{29}, []int{60}, []int{59}, 0, 0},
		{greatest, greatest, tenOfMax, append([]int{48}, greatest[1:]...), 1, 10}, {greatest, append([]int{1}, make([]int, 9)...), tenOfMax, make([]int, 10), 1, 10},
		{greatest, append(make([]int, 9), 1), tenOfMax, append(slices.Clone(greatest[:9]), 0), 1, 1}, {greatest, make([]int, 10), tenOfMax, greatest, 0, 0},
	}
	for _, c := range cases {
		for _, pair := range [][2][]int{{c.a, c.c}, {c.c, c.a}} {
			sum, carry := impl.MixedAdd(pair[0], pair[1], c.radices)
			if !slices.Equal(sum, c.sum) || carry != c.carry {
				t.Errorf("MixedAdd(%v, %v, %v) = %v, %d, want %v, %d", pair[0], pair[1], c.radices, sum, carry, c.sum, c.carry)
			}
			if got := impl.MixedCarries(pair[0], pair[1], c.radices); got != c.carries {
				t.Errorf("MixedCarries(%v, %v, %v) = %d, want %d", pair[0], pair[1], c.radices, got, c.carries)
			}
		}
	}
}

// A sum can carry out of any single place.
func TestMixedSumsThatCarryOutOfOnePlace(t *testing.T) {
	for _, radices := range mixedSystems() {
		for k, radix := range radices {
			a, c, want := make([]int, len(radices)), make([]int, len(radices)), make([]int, len(radices))
			a[k], c[k] = radix-1, 1
			carry := 1
			if k+1 < len(radices) {
				want[k+1], carry = 1, 0
			}
			sum, got := impl.MixedAdd(a, c, radices)
			if count := impl.MixedCarries(a, c, radices); !slices.Equal(sum, want) || got != carry || count != 1 {
				t.Errorf("MixedAdd(%v, %v, %v) = %v, %d, with %d carries", a, c, radices, sum, got, count)
			}
		}
	}
}

func TestNextMixedTable(t *testing.T) {
	cases := []struct{ digits, radices, want []int }{
		{[]int{0, 0, 0}, clock, []int{1, 0, 0}}, {[]int{58, 0, 0}, clock, []int{59, 0, 0}}, {[]int{59, 0, 0}, clock, []int{0, 1, 0}}, {[]int{59, 1, 0}, clock, []int{0, 2, 0}}, {[]int{59, 59, 0}, clock, []int{0, 0, 1}},
		{[]int{0, 59, 23}, clock, []int{1, 59, 23}}, {[]int{59, 59, 22}, clock, []int{0, 0, 23}}, {[]int{58, 59, 23}, clock, []int{59, 59, 23}}, {[]int{59, 59, 23}, clock, []int{0, 0, 0}},
		{[]int{0}, []int{2}, []int{1}}, {[]int{1}, []int{2}, []int{0}}, {[]int{59}, []int{60}, []int{0}}, {slices.Repeat([]int{1}, 10), longestRadices, make([]int, 10)},
		{[]int{60, 0, 0}, clock, nil}, {[]int{0, 0, 24}, clock, nil}, {[]int{-1, 0, 0}, clock, nil}, {[]int{0, 0}, clock, nil}, {[]int{0, 0, 0, 0}, clock, nil}, {nil, clock, nil}, {nil, nil, nil}, {[]int{0}, []int{1}, nil},
	}
	for _, c := range cases {
		if got := impl.NextMixed(c.digits, c.radices); !slices.Equal(got, c.want) {
			t.Errorf("NextMixed(%v, %v) = %v, want %v", c.digits, c.radices, got, c.want)
		}
	}
}

// With equal radices, the mixed digits are those of a base, with zeros up to the last place.
func TestMixedDigitsAgreeWithBases(t *testing.T) {
	for b := 2; b <= 16; b++ {
		radices := slices.Repeat([]int{b}, 9)
		if !areRadices(radices) {
			t.Fatalf("%v are no radices", radices)
		}
		for _, n := range mixedNumbers(radices) {
			digits := impl.DigitsOf(n, b)
			padded := append(slices.Clone(digits), make([]int, 9-len(digits))...)
			if got := impl.MixedDigits(n, radices); !slices.Equal(got, padded) {
				t.Errorf("MixedDigits(%d, %v) = %v, want %v", n, radices, got, padded)
			}
		}
	}
}

// mixedTexts matches what FormatMixed writes.
var mixedTexts = regexp.MustCompile(`^([0-9]|[1-5][0-9])(:([0-9]|[1-5][0-9])){0,9}$`)

// checkMixedText parses a text, whose parts are in the order of reading.
func checkMixedText(t *testing.T, text string) {
	t.Helper()
	want := []int{}
	good := mixedTexts.MatchString(text)
	if good {
		for _, part := range strings.Split(text, ":") {
			d, _ := strconv.Atoi(part)
			want = append([]int{d}, want...)
		}
	}
	got, ok := impl.ParseMixed(text)
	if ok != good || !slices.Equal(got, want) {
		t.Errorf("ParseMixed(%q) = %v, %v", text, got, ok)
	}
	if good && impl.FormatMixed(got) != text {
		t.Errorf("FormatMixed(%v) = %q, want %q", got, impl.FormatMixed(got), text)
	}
}

func TestMixedTexts(t *testing.T) {
	cases := []struct {
		digits []int
		text   string
	}{
		{[]int{3, 2, 1}, "1:2:3"}, {[]int{0}, "0"}, {[]int{9}, "9"}, {[]int{10}, "10"}, {[]int{59}, "59"}, {[]int{0, 0}, "0:0"}, {[]int{5, 0}, "0:5"}, {[]int{0, 5}, "5:0"}, {[]int{59, 59, 23}, "23:59:59"},
		{[]int{9, 10, 59, 0}, "0:59:10:9"}, {upTo(50, 59), "59:58:57:56:55:54:53:52:51:50"}, {make([]int, 10), "0:0:0:0:0:0:0:0:0:0"}, {upTo(0, 9), "9:8:7:6:5:4:3:2:1:0"},
	}
	for _, c := range cases {
		if got := impl.FormatMixed(c.digits); got != c.text {
			t.Errorf("FormatMixed(%v) = %q, want %q", c.digits, got, c.text)
		}
		if got, ok := impl.ParseMixed(c.text); !ok || !slices.Equal(got, c.digits) {
			t.Errorf("ParseMixed(%q) = %v, %v", c.text, got, ok)
		}
	}
}

func TestFormatMixedOfOtherLists(t *testing.T) {
	lists := [][]int{nil, {}, {-1}, {60}, {61}, {100}, {math.MinInt64}, {math.MaxInt64}, make([]int, 11), make([]int, 12), make([]int, 3000), upTo(0, 10), slices.Repeat([]int{59}, 11), slices.Repeat([]int{60}, 10)}
	for k := range 10 {
		for _, wrong := range []int{-1, -59, 60, 61, math.MinInt64, math.MaxInt64} {
			list := upTo(50, 59)
			list[k] = wrong
			lists = append(lists, list)
		}
	}
	for _, list := range lists {
		if got := impl.FormatMixed(list); got != "" {
			t.Errorf("FormatMixed(%v) = %q", list, got)
		}
	}
}

func TestMixedTextsOfAllShortLists(t *testing.T) {
	for _, list := range listsOver([]int{-1, 0, 1, 9, 10, 59, 60}, 4) {
		want := ""
		for k := len(list) - 1; k >= 0; k-- {
			want += strconv.Itoa(list[k]) + ":"
		}
		want = strings.TrimSuffix(want, ":")
		if slices.Contains(list, -1) || slices.Contains(list, 60) {
			want = ""
		}
		if got := impl.FormatMixed(list); got != want {
			t.Errorf("FormatMixed(%v) = %q, want %q", list, got, want)
		}
		checkMixedText(t, want)
	}
	for d := range 60 {
		for count := 1; count <= 10; count++ {
			checkMixedText(t, impl.FormatMixed(append(slices.Repeat([]int{d}, count-1), 59-d)))
		}
	}
}

func TestParseMixedOfAllShortTexts(t *testing.T) {
	for _, text := range textsOver([]string{"0", "1", "5", "6", "9", ":", "-", "+", " ", "a", "\xff"}, 4) {
		checkMixedText(t, text)
	}
	for _, text := range textsOver([]string{"0", "59", "60", "1", ":"}, 5) {
		checkMixedText(t, text)
	}
	for n := range 1100 {
		checkMixedText(t, strconv.Itoa(n))
		checkMixedText(t, "1:"+strconv.Itoa(n)+":2")
	}
}

func TestParseMixedRefusesOtherTexts(t *testing.T) {
	texts := []string{
		"", ":", "::", ":1", "1:", "1::2", ":1:2", "1:2:", "1::", "::1", ":1:", "01", "00", "1:02", "01:2", "1:00:2", "+1", "-1", "-0", "1:-1", "1:+2", "-1:2", "1:2-", " 1", "1 ", "1 :2", "1: 2", "1:2 ", "\t1", "1:2\n", "\n",
		"a", "1:a", "a:1", "1a", "1:2a:3", "0x1", "1e1", "1.0", "1,2", "1;2", "1_0", "60", "1:60", "60:1", "1:60:1", "61", "99", "100", "1:100", "\x00", "1\x00", "1\x00:2", "\xff", "1:\xff", "1\xff2", "1:2\x80", "\u0661", "\uff11", "1\uff1a2",
		"9223372036854775807", "9223372036854775808", "-9223372036854775808", "18446744073709551616", "18446744073709551617", "1:18446744073709551617", "18446744073709551617:1", strings.Repeat("9", 5000), strings.Repeat("0", 5000),
		strings.Repeat("1:", 10), strings.Repeat("1:", 10) + "1", strings.Repeat("1:", 11) + "1", strings.Repeat("0:", 10) + "0", strings.Repeat("59:", 10) + "59", strings.Repeat(":", 9), strings.Repeat(":", 5000), strings.Repeat("1:", 5000) + "1",
	}
	for _, text := range texts {
		if mixedTexts.MatchString(text) {
			t.Errorf("%q is a text of mixed digits", text)
		}
		checkMixedText(t, text)
	}
	for count := 1; count <= 13; count++ {
		checkMixedText(t, strings.TrimSuffix(strings.Repeat("7:", count), ":"))
		checkMixedText(t, strings.TrimSuffix(strings.Repeat("0:", count), ":"))
	}
}

func TestParseMixedOfEveryByte(t *testing.T) {
	for b := range 256 {
		letter := string([]byte{byte(b)})
		for _, text := range []string{letter, "1" + letter, letter + "1", "1:2" + letter, letter + ":1", "1:" + letter, "1" + letter + "2", "1:" + letter + ":2"} {
			checkMixedText(t, text)
		}
	}
}

// mixedCalls are calls with the digits of two numbers in three places of 10, or with radices in their place.
func mixedCalls() map[string]func(a, c []int) [][]int {
	number := map[bool]int{true: 1}
	sum := func(a, c, radices []int) [][]int {
		list, carry := impl.MixedAdd(a, c, radices)
		return [][]int{list, {carry}, {impl.MixedCarries(a, c, radices)}}
	}
	return map[string]func(a, c []int) [][]int{
		"MixedAdd of digits":      func(a, c []int) [][]int { return sum(a, c, []int{10, 10, 10}) },
		"MixedAdd of one list":    func(a, c []int) [][]int { return append(sum(a, a, []int{10, 10, 10}), sum(a, a, c)...) },
		"MixedAdd of one for all": func(a, c []int) [][]int { return append(sum(a, a, a), sum(c, c, c)...) },
		"MixedAdd with radices": func(a, c []int) [][]int {
			return append(sum(a, make([]int, len(a)), c), sum(make([]int, len(a)), a, c)...)
		},
		"NextMixed of digits": func(a, c []int) [][]int {
			return [][]int{impl.NextMixed(a, []int{10, 10, 10}), impl.NextMixed(c, []int{10, 10, 10})}
		},
		"NextMixed with radices": func(a, c []int) [][]int {
			return [][]int{impl.NextMixed(a, c), impl.NextMixed(a, c), impl.NextMixed(c, a)}
		},
		"MixedDigits with radices": func(a, c []int) [][]int {
			return [][]int{impl.MixedDigits(5, a), impl.MixedDigits(0, c), impl.MixedDigits(0, c)}
		},
		"PlacesOf": func(a, c []int) [][]int { return [][]int{impl.PlacesOf(a), impl.PlacesOf(c), impl.PlacesOf(a)} },
		"MixedOk and MixedValue": func(a, c []int) [][]int {
			return [][]int{{number[impl.MixedOk(a, c)], number[impl.MixedOk(c, a)], impl.MixedValue(a, c), impl.MixedValue(c, a), impl.MixedValue(a, []int{10, 10, 10})}}
		},
		"RadicesOk and RangeOf": func(a, c []int) [][]int {
			return [][]int{{number[impl.RadicesOk(a)], number[impl.RadicesOk(c)], impl.RangeOf(a), impl.RangeOf(c)}}
		},
		"FormatMixed and ParseMixed": func(a, c []int) [][]int {
			one, _ := impl.ParseMixed(impl.FormatMixed(a))
			other, _ := impl.ParseMixed(impl.FormatMixed(c))
			again, _ := impl.ParseMixed(impl.FormatMixed(a))
			return [][]int{one, other, again}
		},
	}
}

func TestMixedResultsShareNoMemory(t *testing.T) {
	pairs := [][2][]int{
		{{3, 2, 1}, {9, 9, 9}}, {{3, 2, 1}, {60, 60, 24}}, {{59, 59, 23}, {60, 60, 24}}, {{9, 9, 9}, {1, 0, 0}}, {{0, 0, 0}, {0, 0, 0}}, {{5, 4, 3}, {7, 7, 7}}, {{1}, {2}}, {{}, {3, 2, 1}},
		{{}, {}}, {{10, 0, 0}, {1, 1, 1}}, {{1, 1}, {2, 2}}, {slices.Repeat([]int{1}, 10), longestRadices}, {make([]int, 11), slices.Repeat([]int{2}, 11)}, {{7, 7}, {8, 61}},
	}
	for name, call := range mixedCalls() {
		for _, pair := range pairs {
			checkMemory(t, name, call, pair)
		}
	}
}

func TestMixedFunctionsLeaveTheirArguments(t *testing.T) {
	for _, radices := range append(mixedSystems(), noRadices()...) {
		before := slices.Clone(radices)
		list := slices.Repeat([]int{1}, len(radices))
		impl.RadicesOk(radices)
		impl.RangeOf(radices)
		impl.PlacesOf(radices)
		impl.MixedDigits(1, radices)
		impl.MixedOk(list, radices)
		impl.MixedValue(list, radices)
		impl.MixedAdd(list, list, radices)
		impl.MixedCarries(list, list, radices)
		impl.NextMixed(list, radices)
		impl.FormatMixed(list)
		if !slices.Equal(radices, before) || slices.ContainsFunc(list, func(d int) bool { return d != 1 }) {
			t.Errorf("%v became %v, and the ones %v", before, radices, list)
		}
	}
}
