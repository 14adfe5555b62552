package tests

import (
	"math"
	"math/big"
	"slices"
	"strings"
	"testing"

	"loop.example/g03203/impl"
)

// negaListOf finds digits in base -b without dividing by it: after b - 1 is added at every odd place, the digits in base b are those wanted at the even places and their complements at the odd ones.
func negaListOf(n *big.Int, b int) []int {
	const places = 70
	added, _ := new(big.Int).SetString(strings.Repeat("0123456789abcdef"[b-1:b]+"0", places/2), b)
	list := listOf(added.Add(added, n).Text(b))
	list = append(list, make([]int, places-len(list))...)
	for k := 1; k < places; k += 2 {
		list[k] = b - 1 - list[k]
	}
	for len(list) > 0 && list[len(list)-1] == 0 {
		list = list[:len(list)-1]
	}
	return slices.Clip(list)
}

func negaList(n, b int) []int { return negaListOf(big.NewInt(int64(n)), b) }

// negaExact adds the places of any list one by one.
func negaExact(digits []int, b int) *big.Int {
	sum := new(big.Int)
	for k, d := range digits {
		sum.Add(sum, new(big.Int).Mul(big.NewInt(int64(d)), powerOf(-b, k)))
	}
	return sum
}

func within(exact *big.Int) bool { return exact.CmpAbs(big.NewInt(maxNumber)) <= 0 }

// negaAnswer is what a function that returns digits in base -b should return for an exact integer.
func negaAnswer(exact *big.Int, b int) ([]int, bool) {
	if !within(exact) {
		return nil, false
	}
	return negaListOf(exact, b), true
}

// someIntegers lists integers from -MaxNumber to MaxNumber.
func someIntegers() []int {
	list := []int{}
	for _, n := range someNumbers() {
		list = append(list, n, -n)
	}
	return list
}

func integersBeyond() []int {
	return []int{
		math.MinInt64, math.MinInt64 + 1, -math.MaxInt32 * maxNumber / 1000, -2 * maxNumber, -maxNumber - 2, -maxNumber - 1,
		maxNumber + 1, maxNumber + 2, 2 * maxNumber, 1 << 62, math.MaxInt64 - 1, math.MaxInt64,
	}
}

func TestNegaDigitsTable(t *testing.T) {
	cases := []struct {
		n, b int
		want []int
	}{
		{0, 2, nil}, {0, 10, nil}, {0, 16, nil}, {1, 2, []int{1}}, {1, 16, []int{1}},
		{-1, 2, []int{1, 1}}, {-1, 10, []int{9, 1}}, {-1, 16, []int{15, 1}}, {-2, 2, []int{0, 1}}, {2, 2, []int{0, 1, 1}}, {3, 2, []int{1, 1, 1}},
		{-3, 2, []int{1, 0, 1, 1}}, {4, 2, []int{0, 0, 1}}, {-8, 2, []int{0, 0, 0, 1}}, {9, 10, []int{9}}, {10, 10, []int{0, 9, 1}}, {-10, 10, []int{0, 1}},
		{19, 10, []int{9, 9, 1}}, {-11, 10, []int{9, 2}}, {100, 10, []int{0, 0, 1}}, {15, 16, []int{15}}, {16, 16, []int{0, 15, 1}}, {-16, 16, []int{0, 1}},
		{-90, 10, []int{0, 9}}, {-91, 10, []int{9, 0, 9, 1}}, {maxNumber, 10, append(make([]int, 12), 1)}, {-maxNumber, 10, append(make([]int, 12), 9, 1)},
		{-maxNumber / 10, 10, append(make([]int, 11), 1)}, {1 << 38, 2, append(make([]int, 38), 1)}, {-(1 << 39), 2, append(make([]int, 39), 1)},
	}
	for _, c := range cases {
		if got := impl.NegaDigits(c.n, c.b); !slices.Equal(got, c.want) {
			t.Errorf("NegaDigits(%d, %d) = %v, want %v", c.n, c.b, got, c.want)
		}
		if n, ok := impl.NegaValue(c.want, c.b); !ok || n != c.n {
			t.Errorf("NegaValue(%v, %d) = %d, %v, want %d", c.want, c.b, n, ok, c.n)
		}
	}
}

func TestNegaDigitsOfIntegers(t *testing.T) {
	for _, n := range someIntegers() {
		for b := 2; b <= 16; b++ {
			want := negaList(n, b)
			got := impl.NegaDigits(n, b)
			if !slices.Equal(got, want) || !impl.DigitsOk(got, b) || negaExact(got, b).Cmp(big.NewInt(int64(n))) != 0 {
				t.Fatalf("NegaDigits(%d, %d) = %v, want %v", n, b, got, want)
			}
			if value, ok := impl.NegaValue(want, b); !ok || value != n {
				t.Errorf("NegaValue(%v, %d) = %d, %v, want %d", want, b, value, ok, n)
			}
			sign := big.NewInt(int64(n)).Sign()
			if got := impl.NegaSign(want, b); got != sign {
				t.Errorf("NegaSign(%v, %d) = %d, want %d", want, b, got, sign)
			}
		}
	}
}

func TestNoNegaDigits(t *testing.T) {
	for _, n := range integersBeyond() {
		for b := 2; b <= 16; b++ {
			if got := impl.NegaDigits(n, b); len(got) != 0 {
				t.Errorf("NegaDigits(%d, %d) = %v", n, b, got)
			}
		}
	}
	for _, b := range badBases() {
		for _, n := range append(integersBeyond(), 0, 1, -1, 10, -10, maxNumber, -maxNumber) {
			if got := impl.NegaDigits(n, b); len(got) != 0 {
				t.Errorf("NegaDigits(%d, %d) = %v", n, b, got)
			}
		}
	}
}

// The lists of at most k digits are those of the integers of NegaRange, each once.
func TestEachIntegerHasOneListInANegativeBase(t *testing.T) {
	for b := 2; b <= 16; b++ {
		most := 3
		if b == 2 {
			most = 9
		}
		found := make([]map[int]bool, most+1)
		for k := range found {
			found[k] = map[int]bool{}
		}
		for _, list := range listsOver(upTo(0, b-1), most) {
			n, ok := impl.NegaValue(list, b)
			if !impl.DigitsOk(list, b) {
				if ok || n != 0 {
					t.Errorf("NegaValue(%v, %d) = %d, %v", list, b, n, ok)
				}
				continue
			}
			if !ok || !slices.Equal(impl.NegaDigits(n, b), list) || found[most][n] {
				t.Errorf("NegaValue(%v, %d) = %d, %v, with the digits %v", list, b, n, ok, impl.NegaDigits(n, b))
			}
			for k := len(list); k <= most; k++ {
				found[k][n] = true
			}
		}
		for k := range found {
			low, high := impl.NegaRange(k, b)
			if len(found[k]) != high-low+1 || !found[k][low] || !found[k][high] {
				t.Errorf("NegaRange(%d, %d) = %d, %d, but there are %d integers", k, b, low, high, len(found[k]))
			}
		}
	}
}

func TestNegaValueAtTheLimits(t *testing.T) {
	for b := 2; b <= 16; b++ {
		for _, middle := range []int{maxNumber, -maxNumber} {
			for n := middle - 300; n <= middle+300; n++ {
				list := negaList(n, b)
				want, good := n, n >= -maxNumber && n <= maxNumber
				if !good {
					want = 0
				}
				if got, ok := impl.NegaValue(list, b); got != want || ok != good {
					t.Errorf("NegaValue(%v, %d) = %d, %v, the digits are those of %d", list, b, got, ok, n)
				}
			}
		}
		for _, n := range integersBeyond() {
			list := negaList(n, b)
			if got, ok := impl.NegaValue(list, b); got != 0 || ok {
				t.Errorf("NegaValue(%v, %d) = %d, %v, the digits are those of %d", list, b, got, ok, n)
			}
		}
	}
}

// Lists of up to 60 digits wrap an int around many times, also to 0 and to small integers.
func TestNegaValueOfLongLists(t *testing.T) {
	for b := 2; b <= 16; b++ {
		lists := longLists(b)
		for count := 1; count <= 60; count++ {
			lists = append(lists, append(make([]int, count-1), 1), append(make([]int, count-1), b-1), slices.Repeat([]int{b - 1}, count))
		}
		for _, n := range []int{0, 1, -1, 5, -5, maxNumber, -maxNumber} {
			for turns := int64(-3); turns <= 3; turns++ {
				// 64 bits of these are those of n.
				exact := new(big.Int).Mul(big.NewInt(turns), powerOf(2, 64))
				list := negaListOf(exact.Add(exact, big.NewInt(int64(n))), b)
				if len(list) <= 60 {
					lists = append(lists, list)
				}
			}
		}
		for _, list := range lists {
			exact := negaExact(list, b)
			want := 0
			if within(exact) {
				want = int(exact.Int64())
			}
			if got, ok := impl.NegaValue(list, b); got != want || ok != within(exact) {
				t.Errorf("NegaValue(%v, %d) = %d, %v, want %v", list, b, got, ok, exact)
			}
		}
	}
}

func checkNegaPair(t *testing.T, a, c []int, b int) {
	t.Helper()
	x, y := negaExact(a, b), negaExact(c, b)
	both := within(x) && within(y)
	sum, good := negaAnswer(new(big.Int).Add(x, y), b)
	if !both {
		sum, good = nil, false
	}
	got, ok := impl.NegaAdd(a, c, b)
	checkList(t, got, ok, sum, good, "NegaAdd", a, c, b)
	product, good := negaAnswer(new(big.Int).Mul(x, y), b)
	if !both {
		product, good = nil, false
	}
	got, ok = impl.NegaTimes(a, c, b)
	checkList(t, got, ok, product, good, "NegaTimes", a, c, b)
	if order := impl.NegaCompare(a, c, b); order != x.Cmp(y) {
		t.Errorf("NegaCompare(%v, %v, %d) = %d, want %d", a, c, b, order, x.Cmp(y))
	}
}

func TestNegaArithmeticOfSmallIntegers(t *testing.T) {
	for b := 2; b <= 16; b++ {
		for m := -40; m <= 40; m++ {
			for n := -40; n <= 40; n++ {
				checkNegaPair(t, negaList(m, b), negaList(n, b), b)
			}
		}
	}
}

func TestNegaArithmeticOfGreatIntegers(t *testing.T) {
	numbers := []int{
		0, 1, 2, 3, 7, 10, 16, 999, 10001, 65536, 999999, 1000000, 1000001, 1 << 25, 99990001, 1 << 31, 1 << 32, 1<<32 + 1, 1<<32 - 1, 1 << 33, 1 << 39,
		maxNumber / 3, maxNumber/2 - 1, maxNumber / 2, maxNumber/2 + 1, maxNumber - 10, maxNumber - 1, maxNumber, maxNumber + 1, maxNumber + 2, 2 * maxNumber,
	}
	for b := 2; b <= 16; b++ {
		for _, m := range numbers {
			for _, n := range numbers {
				for _, signs := range [][2]int{{1, 1}, {1, -1}, {-1, 1}, {-1, -1}} {
					checkNegaPair(t, negaList(signs[0]*m, b), negaList(signs[1]*n, b), b)
				}
			}
		}
	}
}

func TestNegaAddTable(t *testing.T) {
	cases := []struct {
		m, n int
		ok   bool
	}{
		{0, 0, true}, {0, 1, true}, {1, 0, true}, {1, 1, true}, {1, -1, true}, {-1, -1, true},
		{maxNumber, 0, true}, {0, -maxNumber, true}, {maxNumber - 1, 1, true}, {1, maxNumber - 1, true}, {-1, 1 - maxNumber, true},
		{maxNumber / 2, maxNumber / 2, true}, {-maxNumber / 2, -maxNumber / 2, true}, {maxNumber, -maxNumber, true}, {maxNumber, -1, true}, {-maxNumber, 1, true},
		{maxNumber, 1, false}, {1, maxNumber, false}, {-maxNumber, -1, false}, {-1, -maxNumber, false}, {maxNumber, maxNumber, false}, {-maxNumber, -maxNumber, false},
		{maxNumber/2 + 1, maxNumber / 2, false}, {-maxNumber / 2, -maxNumber/2 - 1, false},
		// One argument is refused, although the sum would be within the limits.
		{maxNumber + 1, -1, false}, {-1, maxNumber + 1, false}, {-maxNumber - 1, 1, false}, {1, -maxNumber - 1, false}, {maxNumber + 1, -maxNumber - 1, false},
	}
	for _, c := range cases {
		for b := 2; b <= 16; b++ {
			var want []int
			if c.ok {
				want = negaList(c.m+c.n, b)
			}
			got, ok := impl.NegaAdd(negaList(c.m, b), negaList(c.n, b), b)
			checkList(t, got, ok, want, c.ok, "NegaAdd of", c.m, c.n, b)
		}
	}
}

func TestNegaTimesTable(t *testing.T) {
	cases := []struct {
		m, n int
		ok   bool
	}{
		{0, 0, true}, {0, maxNumber, true}, {-maxNumber, 0, true}, {0, -1, true}, {-1, 0, true}, {-1, -1, true}, {1, -1, true},
		{maxNumber, 1, true}, {1, maxNumber, true}, {maxNumber, -1, true}, {-1, maxNumber, true}, {-maxNumber, -1, true}, {1, -maxNumber, true},
		{1000000, 1000000, true}, {-1000000, 1000000, true}, {1000000, -1000000, true}, {-1000000, -1000000, true}, {333333333333, 3, true}, {-333333333333, 3, true},
		{maxNumber / 2, 2, true}, {2, -maxNumber / 2, true}, {1000001, 999999, true}, {-1000001, 999999, true},
		// 10001 times 99990001 is MaxNumber + 1.
		{10001, 99990001, false}, {99990001, 10001, false}, {-10001, 99990001, false}, {10001, -99990001, false}, {-10001, -99990001, false},
		{maxNumber/2 + 1, 2, false}, {2, -maxNumber/2 - 1, false}, {maxNumber, 2, false}, {-2, maxNumber, false}, {1000001, 1000000, false},
		// In 64 bits, these products wrap around to 0, to small integers and to the least one.
		{1 << 32, 1 << 32, false}, {-1 << 32, 1 << 32, false}, {1 << 39, 1 << 25, false}, {1 << 32, 1<<32 + 1, false}, {1 << 32, 1 << 31, false}, {1 << 32, -1 << 31, false},
		{1 << 36, 1<<28 + 1, false}, {maxNumber, maxNumber, false}, {-maxNumber, maxNumber, false}, {-maxNumber, -maxNumber, false},
		// One argument is refused, although the product would be within the limits.
		{0, maxNumber + 1, false}, {maxNumber + 1, 0, false}, {0, -maxNumber - 1, false}, {-maxNumber - 1, 0, false}, {0, 1 << 62, false}, {1, maxNumber + 1, false},
	}
	for _, c := range cases {
		for b := 2; b <= 16; b++ {
			var want []int
			if c.ok {
				want = negaList(c.m*c.n, b)
			}
			got, ok := impl.NegaTimes(negaList(c.m, b), negaList(c.n, b), b)
			checkList(t, got, ok, want, c.ok, "NegaTimes of", c.m, c.n, b)
		}
	}
}

// The sums and products in base -b are those of the digits in base b.
func TestNegaArithmeticAgreesWithTheOthers(t *testing.T) {
	for b := 2; b <= 16; b++ {
		for _, m := range []int{0, 1, 2, 15, 16, 17, 100, 255, 4095, 65536, 999999, 1000000} {
			for _, n := range []int{0, 1, 3, 10, 16, 99, 256, 1000, 65535, 999999, 1000000} {
				sum, _ := impl.AddDigits(impl.DigitsOf(m, b), impl.DigitsOf(n, b), b)
				product, _ := impl.TimesDigits(impl.DigitsOf(m, b), impl.DigitsOf(n, b), b)
				s, _ := impl.ValueOf(sum, b)
				p, _ := impl.ValueOf(product, b)
				got, ok := impl.NegaAdd(impl.NegaDigits(m, b), impl.NegaDigits(n, b), b)
				checkList(t, got, ok, impl.NegaDigits(s, b), true, "NegaAdd of", m, n, b)
				got, ok = impl.NegaTimes(impl.NegaDigits(m, b), impl.NegaDigits(n, b), b)
				checkList(t, got, ok, impl.NegaDigits(p, b), true, "NegaTimes of", m, n, b)
				got, ok = impl.NegaTimes(impl.NegaDigits(-m, b), impl.NegaDigits(n, b), b)
				checkList(t, got, ok, impl.NegaDigits(-p, b), true, "NegaTimes of", -m, n, b)
				if order := impl.CompareDigits(impl.DigitsOf(m, b), impl.DigitsOf(n, b), b); impl.NegaCompare(impl.NegaDigits(m, b), impl.NegaDigits(n, b), b) != order || impl.NegaCompare(impl.NegaDigits(-m, b), impl.NegaDigits(-n, b), b) != -order {
					t.Errorf("NegaCompare of %d and %d in base %d differs from CompareDigits", m, n, b)
				}
			}
		}
	}
}

func TestNegaSign(t *testing.T) {
	for b := 2; b <= 16; b++ {
		for _, list := range longLists(b) {
			want := negaExact(list, b).Sign()
			if got := impl.NegaSign(list, b); got != want {
				t.Errorf("NegaSign(%v, %d) = %d, want %d", list, b, got, want)
			}
		}
		if got := impl.NegaSign(nil, b); got != 0 {
			t.Errorf("NegaSign of nothing in base %d = %d", b, got)
		}
		for count := 1; count <= 60; count++ {
			alone := append(make([]int, count-1), 1)
			// All that counts in the other direction is as much as it can be.
			against := slices.Clone(alone)
			for k := count - 2; k >= 0; k -= 2 {
				against[k] = b - 1
			}
			want := count%2*2 - 1
			for _, list := range [][]int{against, alone, slices.Repeat([]int{b - 1}, count)} {
				if got := impl.NegaSign(list, b); got != want {
					t.Errorf("NegaSign(%v, %d) = %d, want %d", list, b, got, want)
				}
			}
		}
	}
}

func TestNegaCompareOfLongLists(t *testing.T) {
	for b := 2; b <= 16; b++ {
		lists := longLists(b)
		for _, a := range lists {
			x := negaExact(a, b)
			for _, c := range lists {
				want := x.Cmp(negaExact(c, b))
				if got := impl.NegaCompare(a, c, b); got != want {
					t.Errorf("NegaCompare(%v, %v, %d) = %d, want %d", a, c, b, got, want)
				}
			}
		}
	}
}

func TestNegaCompareOfListsThatDifferInOnePlace(t *testing.T) {
	for b := 2; b <= 16; b++ {
		for k := range 60 {
			less := slices.Repeat([]int{1}, 60)
			more := slices.Clone(less)
			less[k], more[k] = 0, b-1
			if k == 59 {
				less = less[:59]
			}
			want := k%2*2 - 1
			if got := impl.NegaCompare(less, more, b); got != want {
				t.Errorf("NegaCompare in base %d of lists that differ at %d = %d, want %d", b, k, got, want)
			}
			if got := impl.NegaCompare(more, less, b); got != -want {
				t.Errorf("NegaCompare in base %d of lists that differ at %d = %d, want %d", b, k, got, -want)
			}
			if got := impl.NegaCompare(more, slices.Clone(more), b); got != 0 {
				t.Errorf("NegaCompare in base %d of equal lists = %d", b, got)
			}
			// The places below count all in the other direction, and are still too little.
			if k > 0 && k < 59 {
				less[k-1], more[k-1] = 0, b-1
				if got := impl.NegaCompare(less, more, b); got != want {
					t.Errorf("NegaCompare in base %d of lists that differ at %d and below = %d, want %d", b, k, got, want)
				}
			}
		}
	}
}

func TestNegaCompareTable(t *testing.T) {
	ones := slices.Repeat([]int{1}, 60)
	cases := []struct {
		a, c []int
		b    int
		want int
	}{
		{nil, nil, 2, 0}, {nil, []int{}, 16, 0}, {nil, []int{1}, 10, -1}, {[]int{1}, nil, 10, 1}, {nil, []int{0, 1}, 10, 1}, {[]int{0, 1}, nil, 10, -1},
		{[]int{1, 1}, []int{1}, 2, -1}, {[]int{1}, []int{1, 1}, 2, 1}, {[]int{9}, []int{0, 0, 1}, 10, -1}, {[]int{0, 1}, []int{0, 0, 0, 1}, 10, 1},
		{[]int{3, 2, 1}, []int{3, 2, 1}, 10, 0}, {[]int{3, 2, 1}, []int{4, 2, 1}, 10, -1}, {[]int{3, 2, 1}, []int{3, 3, 1}, 10, 1}, {[]int{3, 2, 1}, []int{9, 0, 1}, 10, -1},
		{ones, ones, 2, 0}, {ones, ones[:59], 2, -1}, {ones[:59], ones, 2, 1}, {ones[:57], ones[:59], 2, -1}, {ones[:58], ones, 16, 1},
		{nil, nil, 1, -2}, {nil, nil, 17, -2}, {nil, nil, -2, -2}, {[]int{1}, []int{0}, 10, -2}, {[]int{0}, []int{1}, 10, -2}, {[]int{2}, nil, 2, -2}, {nil, []int{2}, 2, -2},
		{append(slices.Clone(ones), 1), ones, 2, -2}, {ones, append(slices.Clone(ones), 1), 2, -2},
	}
	for _, c := range cases {
		if got := impl.NegaCompare(c.a, c.c, c.b); got != c.want {
			t.Errorf("NegaCompare(%v, %v, %d) = %d, want %d", c.a, c.c, c.b, got, c.want)
		}
	}
}

func TestNegaRange(t *testing.T) {
	cases := []struct{ k, b, low, high int }{
		{0, 2, 0, 0}, {0, 10, 0, 0}, {0, 16, 0, 0}, {1, 2, 0, 1}, {1, 10, 0, 9}, {1, 16, 0, 15}, {2, 2, -2, 1}, {2, 10, -90, 9}, {2, 16, -240, 15},
		{3, 2, -2, 5}, {3, 10, -90, 909}, {9, 2, -170, 341}, {9, 10, -90909090, 909090909}, {9, 16, -4042322160, 64677154575},
		{10, 2, 0, 0}, {10, 10, 0, 0}, {10, 16, 0, 0}, {11, 10, 0, 0}, {60, 10, 0, 0}, {-1, 2, 0, 0}, {-1, 16, 0, 0}, {-2, 10, 0, 0},
		{math.MinInt64, 10, 0, 0}, {math.MaxInt64, 10, 0, 0},
	}
	for _, c := range cases {
		if low, high := impl.NegaRange(c.k, c.b); low != c.low || high != c.high {
			t.Errorf("NegaRange(%d, %d) = %d, %d, want %d, %d", c.k, c.b, low, high, c.low, c.high)
		}
	}
	for _, b := range badBases() {
		for _, k := range []int{math.MinInt64, -1, 0, 1, 2, 3, 9, 10, math.MaxInt64} {
			if low, high := impl.NegaRange(k, b); low != 0 || high != 0 {
				t.Errorf("NegaRange(%d, %d) = %d, %d", k, b, low, high)
			}
		}
	}
}

// The integers just outside a range need more digits.
func TestNegaRangeAgreesWithNegaDigits(t *testing.T) {
	for b := 2; b <= 16; b++ {
		for k := range 10 {
			low, high := impl.NegaRange(k, b)
			for _, n := range []int{low, high, low / 2, high / 2} {
				if got := impl.NegaDigits(n, b); len(got) > k {
					t.Errorf("%d in base -%d is %v, want at most %d digits", n, b, got, k)
				}
			}
			for _, n := range []int{low - 1, high + 1} {
				if got := impl.NegaDigits(n, b); len(got) <= k {
					t.Errorf("%d in base -%d is %v, want more than %d digits", n, b, got, k)
				}
			}
		}
	}
}

// checkNegaRefused asks every function for a and c, of which one or the base is wrong.
func checkNegaRefused(t *testing.T, a, c []int, b int) {
	t.Helper()
	sum, ok := impl.NegaAdd(a, c, b)
	checkList(t, sum, ok, nil, false, "NegaAdd", a, c, b)
	product, ok := impl.NegaTimes(a, c, b)
	checkList(t, product, ok, nil, false, "NegaTimes", a, c, b)
	if order := impl.NegaCompare(a, c, b); order != -2 {
		t.Errorf("NegaCompare(%v, %v, %d) = %d", a, c, b, order)
	}
}

func checkOneNegaRefused(t *testing.T, a []int, b int) {
	t.Helper()
	if n, ok := impl.NegaValue(a, b); n != 0 || ok {
		t.Errorf("NegaValue(%v, %d) = %d, %v", a, b, n, ok)
	}
	if sign := impl.NegaSign(a, b); sign != -2 {
		t.Errorf("NegaSign(%v, %d) = %d", a, b, sign)
	}
}

func TestNegativeBasesOfWrongLists(t *testing.T) {
	for b := 2; b <= 16; b++ {
		for _, wrong := range wrongLists(b) {
			for _, right := range [][]int{nil, {1}, {b - 1, 1}, slices.Repeat([]int{b - 1}, 60)} {
				checkNegaRefused(t, wrong, right, b)
				checkNegaRefused(t, right, wrong, b)
			}
			checkNegaRefused(t, wrong, wrong, b)
			checkOneNegaRefused(t, wrong, b)
		}
	}
}

func TestNegativeBasesOfWrongBases(t *testing.T) {
	lists := [][]int{nil, {}, {1}, {0, 1}, {1, 1, 1}, {9, 9}, {0}, {2}, slices.Repeat([]int{1}, 60)}
	for _, b := range badBases() {
		for _, a := range lists {
			for _, c := range lists {
				checkNegaRefused(t, a, c, b)
			}
			checkOneNegaRefused(t, a, b)
		}
	}
}

// negaCalls are calls with two arguments in base 10 for checkMemory.
func negaCalls() map[string]func(a, c []int) [][]int {
	return map[string]func(a, c []int) [][]int{
		"NegaAdd":     func(a, c []int) [][]int { sum, _ := impl.NegaAdd(a, c, 10); return [][]int{sum} },
		"NegaTimes":   func(a, c []int) [][]int { product, _ := impl.NegaTimes(a, c, 10); return [][]int{product} },
		"NegaCompare": func(a, c []int) [][]int { return [][]int{{impl.NegaCompare(a, c, 10)}} },
		"NegaSign":    func(a, c []int) [][]int { return [][]int{{impl.NegaSign(a, 10)}, {impl.NegaSign(c, 10)}} },
		"NegaValue": func(a, c []int) [][]int {
			m, _ := impl.NegaValue(a, 10)
			n, _ := impl.NegaValue(c, 10)
			return [][]int{{m}, {n}}
		},
		"NegaDigits": func(a, c []int) [][]int {
			return [][]int{impl.NegaDigits(len(a), 10), impl.NegaDigits(-len(c), 2), impl.NegaDigits(0, 2)}
		},
	}
}

func TestNegativeResultsShareNoMemory(t *testing.T) {
	for name, call := range negaCalls() {
		for _, pair := range memoryPairs() {
			checkMemory(t, name, call, pair)
		}
	}
}

// One list may be both arguments of a call.
func TestNegativeBasesOfOneList(t *testing.T) {
	for b := 2; b <= 16; b++ {
		for _, a := range append(longLists(b), negaList(maxNumber, b), negaList(-maxNumber, b), negaList(1000000, b), negaList(-1000000, b)) {
			before := slices.Clone(a)
			checkNegaPair(t, a, a, b)
			if !slices.Equal(a, before) {
				t.Errorf("%v in base %d became %v", before, b, a)
			}
		}
	}
}
