package tests

import (
	"math"
	"slices"
	"strings"
	"testing"

	"loop.example/g03203/impl"
)

// grayNumber compares neighbours in the list of the binary digits.
func grayNumber(n int) int {
	list := append(listOf(textOf(n, 2)), 0)
	code := 0
	for k := len(list) - 2; k >= 0; k-- {
		code *= 2
		if list[k] != list[k+1] {
			code++
		}
	}
	return code
}

// grayIndex reads the binary text of the code from the greatest place on, where each 1 is a change.
func grayIndex(code int) int {
	n, digit := 0, 0
	for _, c := range textOf(code, 2) {
		if c == '1' {
			digit = 1 - digit
		}
		n = 2*n + digit
	}
	return n
}

// oneBit returns the index of the one binary digit in which a and c differ; -1 if there is not just one.
func oneBit(a, c int) int {
	for k := range 63 {
		if a == c+1<<k && c>>k&1 == 0 || c == a+1<<k && a>>k&1 == 0 {
			return k
		}
	}
	return -1
}

// grayNumbers lists numbers with Gray codes, among them the powers of 2, their codes and multiples, and their neighbours.
func grayNumbers() []int {
	list := someNumbers()
	for p := 1; p < 1<<41; p *= 2 {
		for _, n := range []int{p, 3 * p, 5 * p, p + p/2, 2*p - 1 - p/2, p / 3, 2 * (p / 3), maxNumber - p, p + 1<<20} {
			list = append(list, n-2, n-1, n, n+1, n+2)
		}
	}
	list = slices.DeleteFunc(list, func(n int) bool { return n < 0 || n > maxNumber })
	slices.Sort(list)
	return slices.Compact(list)
}

// noGrayNumbers lists numbers without Gray codes; of the least one beyond the range, the code would be within it.
func noGrayNumbers() []int {
	return append(badNumbers(), -1<<40, -1<<39, -1<<32, -1<<32+6, -maxNumber+1, -64, -6, -5, -4, -3, maxNumber+3, maxNumber+4096, 1<<40-1, 1<<40, 1<<40+1, 1<<41, 1<<62-1, 1<<62, 1<<62+1, math.MaxInt64-1)
}

func TestGrayTable(t *testing.T) {
	cases := []struct{ n, code, index, flip int }{
		{math.MinInt64, -1, -1, -1}, {math.MinInt64 + 1, -1, -1, -1}, {-maxNumber, -1, -1, -1}, {-2, -1, -1, -1}, {-1, -1, -1, -1}, {0, 0, 0, -1}, {1, 1, 1, 0}, {2, 3, 3, 1}, {3, 2, 2, 0}, {4, 6, 7, 2}, {5, 7, 6, 0}, {6, 5, 4, 1}, {7, 4, 5, 0}, {8, 12, 15, 3}, {9, 13, 14, 0}, {10, 15, 12, 1}, {11, 14, 13, 0}, {12, 10, 8, 2}, {13, 11, 9, 0}, {14, 9, 11, 1}, {15, 8, 10, 0}, {16, 24, 31, 4}, {17, 25, 30, 0},
		{31, 16, 21, 0}, {32, 48, 63, 5}, {33, 49, 62, 0}, {63, 32, 42, 0}, {64, 96, 127, 6}, {65535, 32768, 43690, 0}, {65536, 98304, 131071, 16}, {274877906944, 412316860416, 549755813887, 38}, {549755813887, 274877906944, 366503875925, 0},
		// The last three have numbers beyond MaxNumber.
		{500000000000, 336609397760, 379238682623, 11}, {999999999999, 673218791424, 758477359786, 0}, {maxNumber, 673218795520, 758477365247, 12}, {549755813888, 824633720832, 1099511627775, 39}, {549755813889, 824633720833, 1099511627774, 0}, {673218795521, 905727202305, 1000000000001, 0},
		{maxNumber + 1, -1, -1, -1}, {1<<40 - 1, -1, -1, -1}, {1 << 40, -1, -1, -1}, {1 << 62, -1, -1, -1}, {math.MaxInt64 - 1, -1, -1, -1}, {math.MaxInt64, -1, -1, -1},
	}
	for _, c := range cases {
		if code, index, flip := impl.GrayOf(c.n), impl.FromGray(c.n), impl.FlipIndex(c.n); code != c.code || index != c.index || flip != c.flip {
			t.Errorf("%d has the code %d, is that of %d, and flips %d", c.n, code, index, flip)
		}
	}
}

func checkGray(t *testing.T, n int) {
	t.Helper()
	code := grayNumber(n)
	if got := impl.GrayOf(n); got != code {
		t.Errorf("GrayOf(%d) = %d, want %d", n, got, code)
	}
	// Codes of numbers in the range may be beyond it themselves.
	index := n
	if code > maxNumber {
		index = -1
	}
	if got := impl.FromGray(code); got != index {
		t.Errorf("FromGray(%d) = %d, want %d", code, got, index)
	}
	if got := impl.FromGray(n); got != grayIndex(n) || grayNumber(got) != n {
		t.Errorf("FromGray(%d) = %d, want %d", n, got, grayIndex(n))
	}
	flip := -1
	if n > 0 {
		flip = oneBit(grayNumber(n-1), code)
		if flip == -1 {
			t.Errorf("the codes of %d and the one before differ in more digits", n)
		}
	}
	if got := impl.FlipIndex(n); got != flip {
		t.Errorf("FlipIndex(%d) = %d, want %d", n, got, flip)
	}
}

func TestGrayOfNumbers(t *testing.T) {
	for n := range 1 << 13 {
		checkGray(t, n)
	}
	for n := maxNumber - 5000; n <= maxNumber; n++ {
		checkGray(t, n)
	}
	for _, n := range grayNumbers() {
		checkGray(t, n)
	}
}

func TestNoGray(t *testing.T) {
	for _, n := range noGrayNumbers() {
		if code, index, flip := impl.GrayOf(n), impl.FromGray(n), impl.FlipIndex(n); code != -1 || index != -1 || flip != -1 {
			t.Errorf("%d has the code %d, is that of %d, and flips %d", n, code, index, flip)
		}
	}
}

// The codes below a power of 2 are the numbers below it.
func TestEachNumberIsOneGrayCode(t *testing.T) {
	seen := make([]bool, 1<<14)
	for n := range seen {
		code := impl.GrayOf(n)
		if code < 0 || code >= len(seen) || seen[code] {
			t.Fatalf("GrayOf(%d) = %d", n, code)
		}
		seen[code] = true
		if back := impl.FromGray(code); back != n {
			t.Errorf("FromGray(%d) = %d, want %d", code, back, n)
		}
		if flip := impl.FlipIndex(n); n > 0 && flip != oneBit(impl.GrayOf(n-1), code) {
			t.Errorf("FlipIndex(%d) = %d", n, flip)
		}
	}
}

// reflectedLists lists the Gray digits of all numbers below the range: those of the radices without the last one, forwards before an even last digit and backwards before an odd one.
func reflectedLists(radices []int) [][]int {
	if len(radices) == 0 {
		return [][]int{{}}
	}
	count := len(radices) - 1
	lists := [][]int{}
	before := reflectedLists(radices[:count])
	for last := range radices[count] {
		for _, list := range before {
			lists = append(lists, append(slices.Clone(list), last))
		}
		slices.Reverse(before)
	}
	return lists
}

// reflectedList finds one of them: below the last digit, it is that of what is left, or that of what is left from the end if the digit is odd.
func reflectedList(n int, radices []int) []int {
	if len(radices) == 0 {
		return []int{}
	}
	count := len(radices) - 1
	size := rangeOf(radices[:count])
	last, left := n/size, n%size
	if last%2 == 1 {
		left = size - 1 - left
	}
	return append(reflectedList(left, radices[:count]), last)
}

// tinyGraySystems are radices of which all numbers can be tried: with one place, even, odd and mixed ones.
func tinyGraySystems() [][]int {
	lists := append(tinySystems(), clock[:2], []int{3, 3, 3}, []int{3, 3, 3, 3, 3}, []int{5, 7, 9}, []int{2, 4, 6, 8}, []int{8, 6, 4, 2}, []int{3, 2, 3, 2}, []int{2, 3, 2, 3}, []int{7, 2, 2, 7}, []int{4, 4, 4}, []int{10, 10, 10}, longestRadices, []int{2, 59}, []int{59, 2}, []int{59, 60}, []int{3, 2, 2, 2, 3, 2, 2, 2, 3, 2})
	for radix := 2; radix <= 60; radix++ {
		lists = append(lists, []int{radix})
	}
	return lists
}

// checkGrayList asks for the digits of a number, and for the number of these digits.
func checkGrayList(t *testing.T, n int, list, radices []int) {
	t.Helper()
	got := impl.GrayDigits(n, radices)
	if !slices.Equal(got, list) {
		t.Errorf("GrayDigits(%d, %v) = %v, want %v", n, radices, got, list)
	}
	if !impl.MixedOk(got, radices) {
		t.Errorf("GrayDigits(%d, %v) = %v, which are no mixed digits", n, radices, got)
	}
	if back := impl.FromGrayDigits(list, radices); back != n {
		t.Errorf("FromGrayDigits(%v, %v) = %d, want %d", list, radices, back, n)
	}
}

// differByOne reports whether two lists differ at one index, and by 1 there.
func differByOne(a, c []int) bool {
	different := 0
	for i := range a {
		if a[i] == c[i]-1 || a[i] == c[i]+1 {
			different++
		} else if a[i] != c[i] {
			return false
		}
	}
	return different == 1
}

func TestGrayDigitsOfAllNumbers(t *testing.T) {
	for _, radices := range tinyGraySystems() {
		lists := reflectedLists(radices)
		if len(lists) != rangeOf(radices) {
			t.Fatalf("%v have %d lists", radices, len(lists))
		}
		for n, list := range lists {
			checkGrayList(t, n, list, radices)
			if !slices.Equal(reflectedList(n, radices), list) {
				t.Errorf("%d in %v is not %v", n, radices, list)
			}
			if n == 0 {
				continue
			}
			before, after := impl.GrayDigits(n-1, radices), impl.GrayDigits(n, radices)
			if !differByOne(before, after) || impl.CountDifferent(before, after) != 1 {
				t.Errorf("in %v, %d has the digits %v, and the next number %v", radices, n-1, before, after)
			}
		}
		for _, n := range []int{math.MinInt64, -len(lists), -2, -1, len(lists), len(lists) + 1, 2 * len(lists), maxNumber, math.MaxInt64} {
			if got := impl.GrayDigits(n, radices); len(got) != 0 {
				t.Errorf("GrayDigits(%d, %v) = %v", n, radices, got)
			}
		}
	}
}

func TestGrayDigitsOfNumbers(t *testing.T) {
	for _, radices := range mixedSystems() {
		size := rangeOf(radices)
		for _, n := range mixedNumbers(radices) {
			checkGrayList(t, n, reflectedList(n, radices), radices)
		}
		for _, n := range []int{math.MinInt64, math.MinInt64 + 1, -size, -size + 1, -2, -1, size, size + 1, 2 * size, maxNumber, maxNumber + 1, math.MaxInt64 - 1, math.MaxInt64} {
			if got := impl.GrayDigits(n, radices); len(got) != 0 && n != size-1 {
				t.Errorf("GrayDigits(%d, %v) = %v", n, radices, got)
			}
		}
	}
}

func TestGrayDigitsTable(t *testing.T) {
	cases := []struct {
		n       int
		radices []int
		list    []int
	}{
		{0, []int{2}, []int{0}}, {1, []int{2}, []int{1}}, {2, []int{2}, nil}, {0, []int{60}, []int{0}}, {59, []int{60}, []int{59}}, {60, []int{60}, nil}, {-1, []int{60}, nil}, {58, []int{59}, []int{58}},
		{0, []int{3, 2}, []int{0, 0}}, {1, []int{3, 2}, []int{1, 0}}, {2, []int{3, 2}, []int{2, 0}}, {3, []int{3, 2}, []int{2, 1}}, {4, []int{3, 2}, []int{1, 1}}, {5, []int{3, 2}, []int{0, 1}}, {6, []int{3, 2}, nil}, {-1, []int{3, 2}, nil},
		{2, []int{2, 3}, []int{1, 1}}, {3, []int{2, 3}, []int{0, 1}}, {4, []int{2, 3}, []int{0, 2}}, {5, []int{2, 3}, []int{1, 2}},
		{4, []int{2, 2, 2}, []int{0, 1, 1}}, {5, []int{2, 2, 2}, []int{1, 1, 1}}, {6, []int{2, 2, 2}, []int{1, 0, 1}}, {7, []int{2, 2, 2}, []int{0, 0, 1}}, {8, []int{2, 2, 2}, nil},
		{5, []int{3, 3}, []int{0, 1}}, {6, []int{3, 3}, []int{0, 2}}, {8, []int{3, 3}, []int{2, 2}}, {11, []int{4, 3}, []int{3, 2}}, {11, []int{3, 4}, []int{0, 3}}, {10, []int{5, 2, 4}, []int{0, 1, 1}}, {39, []int{5, 2, 4}, []int{0, 0, 3}},
		{0, clock, []int{0, 0, 0}}, {3723, clock, []int{3, 57, 1}}, {12345, clock, []int{14, 34, 3}}, {43200, clock, []int{0, 0, 12}}, {86399, clock, []int{0, 0, 23}}, {86400, clock, nil}, {123456789012, tenOfMax, []int{12, 19, 4, 7, 3, 5, 5, 3, 7, 1}}, {maxNumber - 1, tenOfMax, []int{0, 0, 0, 0, 0, 0, 0, 0, 0, 9}}, {maxNumber, tenOfMax, nil}, {maxNumber - 1, radicesOfMax, []int{0, 0, 0, 0, 0, 0, 0, 49}}, {maxNumber - 50, radicesOfMax, []int{1, 24, 0, 0, 0, 0, 0, 49}}, {maxNumber, radicesOfMax, nil}, {math.MaxInt64, radicesOfMax, nil}, {math.MinInt64, radicesOfMax, nil},
		{0, nil, nil}, {0, []int{}, nil}, {0, []int{1}, nil}, {0, []int{61}, nil}, {0, []int{0}, nil}, {0, []int{-2}, nil}, {1, []int{2, 1}, nil}, {1, slices.Repeat([]int{2}, 11), nil}, {1, radicesAbove, nil}, {0, []int{math.MinInt64}, nil}, {0, []int{math.MaxInt64}, nil},
	}
	for _, c := range cases {
		if got := impl.GrayDigits(c.n, c.radices); !slices.Equal(got, c.list) {
			t.Errorf("GrayDigits(%d, %v) = %v, want %v", c.n, c.radices, got, c.list)
		}
		if got := impl.FromGrayDigits(c.list, c.radices); c.list != nil && got != c.n {
			t.Errorf("FromGrayDigits(%v, %v) = %d, want %d", c.list, c.radices, got, c.n)
		}
	}
}

func TestNoGrayDigits(t *testing.T) {
	for _, radices := range noRadices() {
		for _, n := range []int{math.MinInt64, -1, 0, 1, 2, 59, 60, 61, maxNumber - 1, maxNumber, math.MaxInt64} {
			if got := impl.GrayDigits(n, radices); len(got) != 0 {
				t.Errorf("GrayDigits(%d, %v) = %v", n, radices, got)
			}
		}
		for _, list := range [][]int{nil, {0}, {1}, make([]int, len(radices)), slices.Repeat([]int{1}, len(radices)), slices.Repeat([]int{-1}, len(radices)), {0, 0}, {1, 1}, {math.MinInt64}, {math.MaxInt64}, radices} {
			if got := impl.FromGrayDigits(list, radices); got != -1 {
				t.Errorf("FromGrayDigits(%v, %v) = %d", list, radices, got)
			}
		}
	}
	for _, radices := range mixedSystems() {
		for _, list := range wrongMixedLists(radices) {
			if got := impl.FromGrayDigits(list, radices); got != -1 {
				t.Errorf("FromGrayDigits(%v, %v) = %d", list, radices, got)
			}
		}
	}
}

func TestFromGrayDigitsOfAllShortLists(t *testing.T) {
	for _, radices := range [][]int{{2}, {3}, {2, 2}, {2, 3}, {3, 2}, {3, 3}, {2, 2, 2}, {3, 2, 3}, {2, 3, 2}, {4, 3, 2}, {2, 3, 4}, {1}, {2, 1}, {}} {
		lists := [][]int{}
		if areRadices(radices) {
			lists = reflectedLists(radices)
		}
		for _, list := range listsOver([]int{-1, 0, 1, 2, 3, 4}, 4) {
			want := slices.IndexFunc(lists, func(other []int) bool { return slices.Equal(list, other) })
			if got := impl.FromGrayDigits(list, radices); got != want {
				t.Errorf("FromGrayDigits(%v, %v) = %d, want %d", list, radices, got, want)
			}
		}
	}
}

// With the radix 2 at all places, Gray digits are the binary digits of Gray codes.
func TestGrayDigitsAgreeWithGrayOf(t *testing.T) {
	for count := 1; count <= 10; count++ {
		radices := slices.Repeat([]int{2}, count)
		for n := range 1 << count {
			want := impl.MixedDigits(impl.GrayOf(n), radices)
			if got := impl.GrayDigits(n, radices); !slices.Equal(got, want) {
				t.Errorf("GrayDigits(%d, %v) = %v, want %v", n, radices, got, want)
			}
		}
	}
}

func TestCountDifferentTable(t *testing.T) {
	cases := []struct {
		a, c  []int
		count int
	}{
		{nil, nil, 0}, {nil, []int{}, 0}, {[]int{}, []int{}, 0}, {nil, []int{1}, -1}, {[]int{1}, nil, -1}, {[]int{0}, []int{}, -1}, {[]int{1}, []int{1}, 0}, {[]int{1}, []int{2}, 1}, {[]int{1, 2}, []int{1, 3}, 1}, {[]int{1, 2}, []int{2, 1}, 2}, {[]int{1, 2}, []int{1}, -1}, {[]int{1, 2}, []int{1, 2, 0}, -1}, {[]int{1, 2, 3}, []int{1, 2}, -1}, {[]int{1, 2, 3}, []int{1, 2, 3}, 0}, {[]int{1, 2, 3}, []int{3, 2, 1}, 2}, {[]int{1, 2, 3}, []int{4, 5, 6}, 3}, {[]int{1, 2, 3}, []int{2, 3, 1}, 3},
		{[]int{math.MinInt64}, []int{math.MaxInt64}, 1}, {[]int{math.MinInt64, 0}, []int{math.MinInt64, 0}, 0}, {[]int{math.MinInt64, math.MaxInt64}, []int{math.MaxInt64, math.MinInt64}, 2}, {[]int{1 << 32}, []int{0}, 1}, {[]int{-1}, []int{1}, 1}, {[]int{256}, []int{0}, 1}, {[]int{math.MinInt64}, []int{0}, 1},
		{make([]int, 3000), make([]int, 3000), 0}, {make([]int, 3000), make([]int, 2999), -1}, {make([]int, 3000), slices.Repeat([]int{1}, 3000), 3000}, {upTo(0, 2999), backward(upTo(0, 2999)), 3000}, {upTo(0, 2998), backward(upTo(0, 2998)), 2998}, {append(make([]int, 2999), 1), make([]int, 3000), 1}, {append([]int{1}, make([]int, 2999)...), make([]int, 3000), 1},
	}
	for _, c := range cases {
		if got, other := impl.CountDifferent(c.a, c.c), impl.CountDifferent(c.c, c.a); got != c.count || other != c.count {
			t.Errorf("CountDifferent(%v, %v) = %d, and the other way round %d, want %d", c.a, c.c, got, other, c.count)
		}
	}
}

func TestCountDifferentOfAllShortLists(t *testing.T) {
	lists := listsOver([]int{-1, 0, 1, math.MaxInt64}, 4)
	for _, a := range lists {
		for _, c := range lists {
			want := -1
			if len(a) == len(c) {
				want = 0
				for i := range a {
					if !slices.Equal(a[i:i+1], c[i:i+1]) {
						want++
					}
				}
			}
			if got := impl.CountDifferent(a, c); got != want {
				t.Errorf("CountDifferent(%v, %v) = %d, want %d", a, c, got, want)
			}
		}
	}
}

// grayCycle lists the codes for k binary digits: those for one digit fewer, and then the same ones backwards with a further digit 1.
func grayCycle(k int) []int {
	if k == 0 {
		return []int{0}
	}
	list := grayCycle(k - 1)
	for _, code := range backward(list) {
		list = append(list, code+1<<(k-1))
	}
	return list
}

// isCycle sorts the numbers, and looks for one different digit between each one and the one before.
func isCycle(list []int, k int) bool {
	if k < 1 || k > 6 || !slices.Equal(slices.Sorted(slices.Values(list)), upTo(0, 1<<k-1)) {
		return false
	}
	before := list[len(list)-1]
	for _, n := range list {
		if oneBit(before, n) == -1 {
			return false
		}
		before = n
	}
	return true
}

// badCycleDigits lists what is not from 1 to 6.
func badCycleDigits() []int {
	return []int{math.MinInt64, math.MinInt64 + 1, -1 << 32, -64, -62, -58, -2, -1, 0, 7, 8, 16, 31, 32, 62, 63, 64, 65, 66, 70, 1 << 32, 1<<32 + 2, math.MaxInt64 - 1, math.MaxInt64}
}

func checkCycle(t *testing.T, list []int, k int) {
	t.Helper()
	if got := impl.IsGrayCycle(list, k); got != isCycle(list, k) {
		t.Errorf("IsGrayCycle(%v, %d) = %v", list, k, got)
	}
}

func TestIsGrayCycleTable(t *testing.T) {
	cases := []struct {
		list []int
		k    int
		ok   bool
	}{
		{nil, 0, false}, {[]int{}, 0, false}, {[]int{0}, 0, false}, {nil, 1, false}, {[]int{0}, 1, false}, {[]int{0, 1}, 1, true}, {[]int{1, 0}, 1, true}, {[]int{0, 0}, 1, false}, {[]int{1, 1}, 1, false}, {[]int{0, 2}, 1, false}, {[]int{1, 2}, 1, false}, {[]int{0, -1}, 1, false}, {[]int{-1, 0}, 1, false}, {[]int{0, 1, 0}, 1, false}, {[]int{0, 1, 0, 1}, 1, false}, {[]int{0, 1}, 2, false}, {[]int{0, 1}, 0, false},
		{[]int{0, 1, 3, 2}, 2, true}, {[]int{0, 2, 3, 1}, 2, true}, {[]int{3, 2, 0, 1}, 2, true}, {[]int{2, 3, 1, 0}, 2, true}, {[]int{0, 1, 2, 3}, 2, false}, {[]int{0, 3, 1, 2}, 2, false}, {[]int{0, 1, 3, 3}, 2, false}, {[]int{0, 1, 0, 1}, 2, false}, {[]int{0, 1, 3, 1}, 2, false}, {[]int{0, 2, 0, 2}, 2, false}, {[]int{0, 1, 3, 4}, 2, false}, {[]int{0, 1, 5, 4}, 2, false}, {[]int{4, 5, 7, 6}, 2, false}, {[]int{0, 1, 3, 7, 6, 2}, 2, false}, {[]int{0, 1, 3, 2, 6, 4}, 2, false}, {[]int{0, 1, 3, -2}, 2, false}, {[]int{0, 1, 3}, 2, false}, {[]int{0, 1, 3, 2, 0}, 2, false}, {[]int{0, 1, 3, 2, 0, 1, 3, 2}, 2, false}, {[]int{0, 1, 3, 2}, 1, false}, {[]int{0, 1, 3, 2}, 3, false},
		{[]int{0, 1, 3, 2, 6, 7, 5, 4}, 3, true}, {[]int{4, 5, 7, 6, 2, 3, 1, 0}, 3, true}, {[]int{6, 7, 5, 4, 0, 1, 3, 2}, 3, true}, {[]int{0, 2, 6, 4, 5, 7, 3, 1}, 3, true}, {[]int{0, 1, 3, 2, 6, 4, 5, 7}, 3, false}, {[]int{0, 1, 3, 2, 6, 7, 4, 5}, 3, false}, {[]int{0, 1, 2, 3, 7, 6, 5, 4}, 3, false}, {[]int{0, 1, 3, 2, 6, 7, 5, 12}, 3, false}, {[]int{8, 1, 3, 2, 6, 7, 5, 4}, 3, false}, {[]int{0, 1, 3, 2, 6, 7, 5, 1}, 3, false}, {[]int{0, 1, 3, 2, 6, 7, 3, 2}, 3, false}, {[]int{0, 1, 3, 2, 6, 7, 5, 4, 0}, 3, false}, {[]int{0, 1, 3, 2, 6, 7, 5}, 3, false}, {[]int{1, 3, 2, 6, 7, 5, 4}, 3, false},
		{[]int{0, math.MinInt64}, 1, false}, {[]int{math.MinInt64, 0}, 1, false}, {[]int{math.MaxInt64, math.MaxInt64 - 1}, 1, false}, {[]int{math.MinInt64, math.MinInt64 + 1}, 1, false}, {[]int{0, 1, math.MinInt64 + 1, math.MinInt64}, 2, false}, {[]int{0, 1, 1<<32 + 1, 1 << 32}, 2, false}, {[]int{0, 1, 3, 2}, 1<<32 + 2, false}, {[]int{0, 1, 3, 2}, 66, false}, {[]int{0, 1, 3, 2}, -62, false}, {[]int{0, 1}, math.MinInt64, false}, {[]int{0, 1}, math.MaxInt64, false},
	}
	for _, c := range cases {
		if got := impl.IsGrayCycle(c.list, c.k); got != c.ok || isCycle(c.list, c.k) != c.ok {
			t.Errorf("IsGrayCycle(%v, %d) = %v", c.list, c.k, got)
		}
	}
}

func TestIsGrayCycleOfAllShortLists(t *testing.T) {
	count := 0
	for _, list := range listsOver([]int{-1, 0, 1, 2, 3, 4}, 5) {
		for k := -1; k <= 3; k++ {
			checkCycle(t, list, k)
			if impl.IsGrayCycle(list, k) {
				count++
			}
		}
	}
	// Two with one digit, and a square from each corner in both directions.
	if count != 2+4*2 {
		t.Errorf("%d lists are cycles", count)
	}
}

// Of all orders of eight numbers, those around the edges of a cube are cycles: six ways around it, from each corner in both directions.
func TestIsGrayCycleOfAllOrders(t *testing.T) {
	count := 0
	for _, list := range allPermutations(8) {
		checkCycle(t, list, 3)
		if impl.IsGrayCycle(list, 3) {
			count++
		}
	}
	if count != 6*8*2 {
		t.Errorf("%d orders are cycles", count)
	}
}

// changedCycles are other lists with the numbers of a cycle in another order, the first ones cycles as well.
func changedCycles(cycle []int, k int) [][]int {
	lists := [][]int{}
	for i := range cycle {
		turned := slices.Concat(cycle[i:], cycle[:i])
		lists = append(lists, turned, backward(turned))
		other := slices.Clone(cycle)
		for j := range other {
			other[j] ^= i
		}
		lists = append(lists, other)
		for j := range i {
			// Two numbers exchanged, and what is between them turned around.
			swapped, reversed := slices.Clone(cycle), slices.Clone(cycle)
			swapped[i], swapped[j] = swapped[j], swapped[i]
			slices.Reverse(reversed[j : i+1])
			lists = append(lists, swapped, reversed)
		}
	}
	// The binary digits of all numbers in another order.
	for places := range min(k, 3) {
		other := slices.Clone(cycle)
		for j, n := range other {
			other[j] = n>>places + n&(1<<places-1)<<(k-places)
		}
		lists = append(lists, other)
	}
	return lists
}

func TestIsGrayCycleOfChangedCycles(t *testing.T) {
	for k := 1; k <= 6; k++ {
		cycle := grayCycle(k)
		size := len(cycle)
		for _, list := range changedCycles(cycle, k) {
			checkCycle(t, list, k)
		}
		wrong := oneChanged(cycle, func(i int) []int {
			return []int{cycle[i] + size, cycle[i] - size, -1, ^cycle[i], size, size + 1, cycle[i] + 1<<32, cycle[i] + math.MinInt64, cycle[(i+1)%size], cycle[(i+2)%size], cycle[(i+size-1)%size], cycle[i] ^ 1, math.MinInt64, math.MaxInt64}
		})
		wrong = append(wrong, nil, cycle[1:], cycle[:size-1], append(slices.Clone(cycle), 0), append(slices.Clone(cycle), size), append([]int{size}, cycle...), append([]int{1}, cycle...), slices.Repeat(cycle, 2), cycle[:size/2], grayCycle(k+1), grayCycle(k-1), slices.Repeat([]int{0}, size), slices.Repeat([]int{0, 1}, size/2+1), slices.Repeat([]int{0, 1}, 4096))
		for _, list := range wrong {
			if impl.IsGrayCycle(list, k) {
				t.Errorf("IsGrayCycle(%v, %d) is true", list, k)
			}
			checkCycle(t, list, k)
		}
		if size >= 4 && impl.IsGrayCycle(upTo(0, size-1), k) {
			t.Errorf("IsGrayCycle of the numbers in order is true for %d", k)
		}
	}
}

// A path through all numbers with one different digit at each step is open if its end differs from its beginning in three digits. That they differ in two goes with another step of that kind.
func TestIsGrayCycleOfOpenPaths(t *testing.T) {
	for k := 3; k <= 6; k++ {
		cycle := grayCycle(k)
		end := len(cycle) - 1
		open := 0
		for i := range end - 1 {
			if oneBit(cycle[i], cycle[end]) == -1 {
				continue
			}
			// What follows a neighbour of the last number is turned around.
			path := slices.Clone(cycle)
			slices.Reverse(path[i+1:])
			closed := oneBit(path[end], path[0]) != -1
			if got := impl.IsGrayCycle(path, k); got != closed {
				t.Errorf("IsGrayCycle(%v, %d) = %v", path, k, got)
			}
			if !closed {
				open++
			}
		}
		if open == 0 {
			t.Errorf("no path is open for %d", k)
		}
	}
	for _, c := range []struct {
		list []int
		k    int
	}{
		{[]int{0, 1, 3, 2, 6, 4, 5, 7}, 3}, {[]int{7, 5, 4, 6, 2, 3, 1, 0}, 3}, {[]int{0, 1, 5, 4, 6, 2, 3, 7}, 3},
		{[]int{0, 1, 2, 3}, 2}, {[]int{0, 2, 1, 3}, 2}, {[]int{0, 1, 3, 2, 6, 4, 7, 5}, 3}, {[]int{0, 4, 6, 2, 3, 1, 7, 5}, 3},
	} {
		if impl.IsGrayCycle(c.list, c.k) {
			t.Errorf("IsGrayCycle(%v, %d) is true", c.list, c.k)
		}
	}
}

func TestGrayCycles(t *testing.T) {
	for k := 1; k <= 6; k++ {
		got := impl.GrayCycle(k)
		if !slices.Equal(got, grayCycle(k)) {
			t.Errorf("GrayCycle(%d) = %v", k, got)
		}
		for n, code := range got {
			if impl.GrayOf(n) != code {
				t.Errorf("GrayCycle(%d) has %d for %d", k, code, n)
			}
		}
		for other := range 9 {
			if impl.IsGrayCycle(got, other) != (other == k) {
				t.Errorf("IsGrayCycle(%v, %d) is %v", got, other, other != k)
			}
		}
	}
	for _, k := range badCycleDigits() {
		if got := impl.GrayCycle(k); len(got) != 0 {
			t.Errorf("GrayCycle(%d) = %v", k, got)
		}
		for _, list := range [][]int{nil, {0}, {0, 1}, {0, 1, 3, 2}, grayCycle(6), grayCycle(7), grayCycle(8)} {
			if impl.IsGrayCycle(list, k) {
				t.Errorf("IsGrayCycle(%v, %d) is true", list, k)
			}
		}
	}
}

func TestGrayCycleTable(t *testing.T) {
	cases := map[int][]int{
		-1: nil, 0: nil, 7: nil, math.MinInt64: nil, math.MaxInt64: nil, 1: {0, 1}, 2: {0, 1, 3, 2}, 3: {0, 1, 3, 2, 6, 7, 5, 4}, 4: {0, 1, 3, 2, 6, 7, 5, 4, 12, 13, 15, 14, 10, 11, 9, 8},
	}
	for k, want := range cases {
		if got := impl.GrayCycle(k); !slices.Equal(got, want) {
			t.Errorf("GrayCycle(%d) = %v, want %v", k, got, want)
		}
	}
}

// movedRings lists the states after one move: of ring 0, or of the ring after the first one that is on, if it is there.
func movedRings(state, k int) []int {
	rings := []byte{}
	for _, on := range mixedList(state, slices.Repeat([]int{2}, k)) {
		rings = append(rings, byte('0'+on))
	}
	moved := []int{ringState(rings, 0)}
	if first := strings.IndexByte(string(rings), '1'); first != -1 && first+1 < k {
		moved = append(moved, ringState(rings, first+1))
	}
	return moved
}

// ringState returns the state of rings after a change of one of them.
func ringState(rings []byte, changed int) int {
	state := 0
	for i, on := range rings {
		if (on == '1') != (i == changed) {
			state += 1 << i
		}
	}
	return state
}

// ringRounds searches from one state on, with one move more in each round, and returns for each state the round in which it is found.
func ringRounds(start, k int) map[int]int {
	rounds := map[int]int{start: 0}
	found := []int{start}
	for round := 1; len(found) > 0; round++ {
		next := []int{}
		for _, state := range found {
			for _, moved := range movedRings(state, k) {
				if _, known := rounds[moved]; !known {
					rounds[moved] = round
					next = append(next, moved)
				}
			}
		}
		found = next
	}
	return rounds
}

func TestRingStepsFromEachState(t *testing.T) {
	for k := 1; k <= 7; k++ {
		for state := range 1 << k {
			want, known := ringRounds(state, k)[0]
			if got := impl.RingSteps(state, k); got != want || !known {
				t.Errorf("RingSteps(%d, %d) = %d, want %d", state, k, got, want)
			}
		}
	}
}

// A second move of the same ring takes the first one back, so that the search may begin where all rings are off.
func TestRingStepsOfAllStates(t *testing.T) {
	for k := 1; k <= 12; k++ {
		rounds := ringRounds(0, k)
		if len(rounds) != 1<<k {
			t.Errorf("%d rings have %d states", k, len(rounds))
		}
		for state, want := range rounds {
			if got := impl.RingSteps(state, k); got != want {
				t.Errorf("RingSteps(%d, %d) = %d, want %d", state, k, got, want)
			}
		}
	}
	// One of the moves from a state is the next one on the way, up to the state from which it is farthest.
	for k := 13; k <= 16; k++ {
		steps, before, state := 0, -1, 0
		for going := true; going; steps++ {
			if got := impl.RingSteps(state, k); got != steps {
				t.Fatalf("RingSteps(%d, %d) = %d, want %d", state, k, got, steps)
			}
			going = false
			for _, moved := range movedRings(state, k) {
				if moved != before {
					before, state, going = state, moved, true
					break
				}
			}
		}
		if steps != 1<<k {
			t.Errorf("%d rings have %d states", k, steps)
		}
	}
}

func TestRingStepsTable(t *testing.T) {
	cases := []struct{ state, k, steps int }{
		{0, 1, 0}, {1, 1, 1}, {2, 1, -1}, {-1, 1, -1}, {0, 2, 0}, {1, 2, 1}, {2, 2, 3}, {3, 2, 2}, {4, 2, -1}, {4, 3, 7}, {5, 3, 6}, {6, 3, 4}, {7, 3, 5}, {0, 3, 0}, {8, 3, -1}, {31, 5, 21}, {63, 6, 42}, {511, 9, 341},
		{0, 16, 0}, {1, 16, 1}, {32768, 16, 65535}, {65534, 16, 43691}, {65535, 16, 43690}, {65536, 16, -1}, {-1, 16, -1}, {32767, 15, 21845}, {32768, 15, -1}, {16384, 15, 32767},
		{0, 0, -1}, {1, 0, -1}, {-1, 0, -1}, {0, 17, -1}, {1, 17, -1}, {65535, 17, -1}, {65536, 17, -1}, {131071, 17, -1}, {0, -1, -1}, {1, -1, -1}, {0, math.MinInt64, -1}, {1, math.MaxInt64, -1}, {0, 62, -1}, {0, 63, -1}, {0, 64, -1}, {1, 65, -1}, {1, 1<<32 + 1, -1}, {1, -63, -1},
		{math.MinInt64, 1, -1}, {math.MaxInt64, 1, -1}, {math.MinInt64, 16, -1}, {math.MaxInt64, 16, -1}, {1 << 32, 16, -1}, {1<<32 + 1, 16, -1}, {math.MinInt64 + 1, 3, -1}, {math.MinInt64, math.MinInt64, -1}, {math.MaxInt64, math.MaxInt64, -1},
	}
	for _, c := range cases {
		if got := impl.RingSteps(c.state, c.k); got != c.steps {
			t.Errorf("RingSteps(%d, %d) = %d, want %d", c.state, c.k, got, c.steps)
		}
	}
}

func TestRingStepsBeyondTheirLimits(t *testing.T) {
	states := []int{math.MinInt64, math.MinInt64 + 1, -1 << 32, -65536, -2, -1, 0, 1, 2, 3, 65535, 65536, 131071, 131072, 1 << 32, math.MaxInt64 - 1, math.MaxInt64}
	for k := -70; k <= 140; k++ {
		for _, state := range states {
			good := k >= 1 && k <= 16 && state >= 0 && float64(state) < math.Pow(2, float64(k))
			if got := impl.RingSteps(state, k); (got == -1) == good {
				t.Errorf("RingSteps(%d, %d) = %d", state, k, got)
			}
		}
	}
	for k := 1; k <= 16; k++ {
		if got := impl.RingSteps(1<<k-1, k); got == -1 {
			t.Errorf("RingSteps of the greatest state of %d rings is -1", k)
		}
		if one, next := impl.RingSteps(1<<k, k), impl.RingSteps(1<<k+1, k); one != -1 || next != -1 {
			t.Errorf("RingSteps beyond the states of %d rings are %d and %d", k, one, next)
		}
	}
}

// grayCalls are calls with digits and radices for checkMemory.
func grayCalls() map[string]func(a, c []int) [][]int {
	yes := map[bool]int{true: 1}
	return map[string]func(a, c []int) [][]int{
		"GrayDigits": func(a, c []int) [][]int {
			return [][]int{impl.GrayDigits(4, c), impl.GrayDigits(0, c), impl.GrayDigits(4, c), impl.GrayDigits(1, a), impl.GrayDigits(7, c)}
		},
		"GrayCycle": func(a, c []int) [][]int {
			return [][]int{impl.GrayCycle(2), impl.GrayCycle(len(a)), impl.GrayCycle(2), impl.GrayCycle(len(c)), impl.GrayCycle(6), impl.GrayCycle(6)}
		},
		"the answers for digits and radices": func(a, c []int) [][]int {
			return [][]int{{impl.FromGrayDigits(a, c), impl.FromGrayDigits(c, a), impl.CountDifferent(a, c), impl.CountDifferent(c, a)}, {yes[impl.IsGrayCycle(a, 2)], yes[impl.IsGrayCycle(c, 2)], yes[impl.IsGrayCycle(a, 3)], yes[impl.IsGrayCycle(c, 1)]}}
		},
	}
}

func TestGrayResultsShareNoMemory(t *testing.T) {
	pairs := [][2][]int{
		{{2, 1}, {3, 2}}, {{2, 0}, {3, 2}}, {{3, 1}, {3, 2}}, {{1}, {2}}, {{0, 1, 1}, {2, 2, 2}}, {{0, 1, 3, 2}, {0, 1}}, {{0, 1, 3, 2}, {2, 2, 4, 3}}, {{0, 1, 2, 3}, {1, 0}}, {{0, 1, 3, 2, 6, 7, 5, 4}, {2, 3, 4, 5, 7, 8, 6, 9}}, {{}, {}}, {{}, {2}}, {{1}, {}}, {{3, 57, 1}, {60, 60, 24}}, {{60, 60, 24}, {60, 60, 24}}, {make([]int, 10), tenOfMax}, {slices.Repeat([]int{1}, 10), longestRadices}, {make([]int, 11), slices.Repeat([]int{2}, 11)}, {{-1, 4}, {61, 1}},
	}
	for name, call := range grayCalls() {
		for _, pair := range pairs {
			checkMemory(t, name, call, pair)
		}
	}
}

// Digits and radices may be one list, and so may two lists that are compared.
func TestGrayFunctionsLeaveTheirArguments(t *testing.T) {
	for _, list := range slices.Concat(mixedSystems(), noRadices(), [][]int{grayCycle(1), grayCycle(2), grayCycle(6)}) {
		before := slices.Clone(list)
		if got := impl.FromGrayDigits(list, list); got != -1 {
			t.Errorf("FromGrayDigits(%v, %v) = %d", list, list, got)
		}
		if got := impl.CountDifferent(list, list); got != 0 {
			t.Errorf("CountDifferent(%v, %v) = %d", list, list, got)
		}
		for k := range 8 {
			checkCycle(t, list, k)
		}
		impl.GrayDigits(1, list)
		impl.GrayDigits(rangeOf(list)-1, list)
		impl.FromGrayDigits(slices.Repeat([]int{1}, len(list)), list)
		if !slices.Equal(list, before) {
			t.Errorf("%v became %v", before, list)
		}
	}
}
