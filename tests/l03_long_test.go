package tests

import (
	"fmt"
	"math"
	"math/big"
	"slices"
	"testing"

	"loop.example/g03203/impl"
)

func digitsText(digits []int) string {
	text := []byte{}
	for _, d := range slices.Backward(digits) {
		text = append(text, "0123456789abcdef"[d])
	}
	if len(text) == 0 {
		return "0"
	}
	return string(text)
}

func exactOf(t *testing.T, digits []int, b int) *big.Int {
	n, ok := new(big.Int).SetString(digitsText(digits), b)
	if !ok {
		t.Fatalf("%v in base %d is no number", digits, b)
	}
	return n
}

func powerOf(b, n int) *big.Int {
	return new(big.Int).Exp(big.NewInt(int64(b)), big.NewInt(int64(n)), nil)
}

// answer is what a function of long numbers should return for an exact number.
func answer(exact *big.Int, b int) ([]int, bool) {
	list := listOf(exact.Text(b))
	if exact.Sign() < 0 || len(list) > 60 {
		return nil, false
	}
	return list, true
}

// checkList compares an answer of the program with the one that is wanted.
func checkList(t *testing.T, got []int, ok bool, want []int, good bool, call ...any) {
	t.Helper()
	if ok != good || !slices.Equal(got, want) {
		t.Errorf("%v: %v, %v, want %v, %v", fmt.Sprint(call...), got, ok, want, good)
	}
}

func checkPair(t *testing.T, a, c []int, b int) {
	t.Helper()
	x, y := exactOf(t, a, b), exactOf(t, c, b)
	got, ok := impl.AddDigits(a, c, b)
	want, good := answer(new(big.Int).Add(x, y), b)
	checkList(t, got, ok, want, good, "AddDigits", a, c, b)
	got, ok = impl.MinusDigits(a, c, b)
	want, good = answer(new(big.Int).Sub(x, y), b)
	checkList(t, got, ok, want, good, "MinusDigits", a, c, b)
	got, ok = impl.TimesDigits(a, c, b)
	want, good = answer(new(big.Int).Mul(x, y), b)
	checkList(t, got, ok, want, good, "TimesDigits", a, c, b)
	if order := impl.CompareDigits(a, c, b); order != x.Cmp(y) {
		t.Errorf("CompareDigits(%v, %v, %d) = %d", a, c, b, order)
	}
	var over, left []int
	if y.Sign() != 0 {
		q, r := new(big.Int).QuoRem(x, y, new(big.Int))
		over, left = listOf(q.Text(b)), listOf(r.Text(b))
	}
	quotient, remainder, ok := impl.DivideDigits(a, c, b)
	checkList(t, quotient, ok, over, y.Sign() != 0, "quotient of DivideDigits", a, c, b)
	checkList(t, remainder, ok, left, y.Sign() != 0, "remainder of DivideDigits", a, c, b)
}

// longLists lists digits in base b of many lengths, up to 60.
func longLists(b int) [][]int {
	lists := [][]int{nil, {}}
	for d := 1; d < b; d++ {
		lists = append(lists, []int{d})
	}
	state := 12345
	for _, count := range []int{1, 2, 3, 7, 20, 29, 30, 31, 58, 59, 60} {
		zeros := append(make([]int, count-1), 1)
		top := append(make([]int, count-1), b-1)
		full := slices.Repeat([]int{b - 1}, count)
		mixed := make([]int, count)
		sparse := make([]int, count)
		for k := range count {
			state = (state*1103515245 + 12345) % 2147483648
			mixed[k] = state / 65536 % b
			if k%5 == 0 {
				sparse[k] = b - 1
			}
		}
		mixed[count-1] = 1 + count%(b-1)
		sparse[count-1] = 1
		beside := slices.Clone(full)
		beside[0] = b - 2
		beside[count-1] = b - 1
		lists = append(lists, zeros, top, full, mixed, sparse, beside)
	}
	return slices.DeleteFunc(lists, func(l []int) bool { return len(l) > 0 && l[len(l)-1] == 0 })
}

func TestLongArithmetic(t *testing.T) {
	for b := 2; b <= 16; b++ {
		lists := longLists(b)
		for _, a := range lists {
			for _, c := range lists {
				checkPair(t, a, c, b)
			}
		}
	}
}

func TestLongArithmeticOfSmallNumbers(t *testing.T) {
	for b := 2; b <= 16; b++ {
		for m := range 70 {
			for n := range 70 {
				checkPair(t, listOf(textOf(m, b)), listOf(textOf(n, b)), b)
			}
		}
		// Beside the powers of the base carries and borrows go through all places.
		for _, m := range []int{b * b, b * b * b, b * b * b * b * b} {
			for i := -2; i <= 2; i++ {
				for n := range 2*b + 2 {
					checkPair(t, listOf(textOf(m+i, b)), listOf(textOf(n, b)), b)
				}
			}
		}
	}
}

func TestLongArithmeticTable(t *testing.T) {
	zeros := make([]int, 59)
	nines := slices.Repeat([]int{9}, 60)
	cases := []struct {
		name string
		f    func([]int, []int, int) ([]int, bool)
		a, c []int
		b    int
		want []int
		ok   bool
	}{
		{"sum of nothing", impl.AddDigits, nil, nil, 10, nil, true},
		{"sum with 0", impl.AddDigits, []int{3, 2}, nil, 10, []int{3, 2}, true},
		{"sum of 0 and another", impl.AddDigits, nil, []int{3, 2}, 10, []int{3, 2}, true},
		{"sum with a carry", impl.AddDigits, []int{9, 9, 9}, []int{1}, 10, []int{0, 0, 0, 1}, true},
		{"sum with a carry from the shorter one", impl.AddDigits, []int{1}, []int{1, 1, 1}, 2, []int{0, 0, 0, 1}, true},
		{"sum of 60 digits", impl.AddDigits, append([]int{8}, nines[1:]...), []int{1}, 10, nines, true},
		{"sum of 61 digits", impl.AddDigits, nines, []int{1}, 10, nil, false},
		{"sum of 61 digits from halves", impl.AddDigits, append(zeros, 5), append(zeros, 5), 10, nil, false},
		{"sum of 60 digits from halves", impl.AddDigits, append(zeros[:59:59], 5), append(zeros[:59:59], 4), 10, append(zeros[:59:59], 9), true},
		{"difference of equal numbers", impl.MinusDigits, nines, nines, 10, nil, true},
		{"difference of nothing", impl.MinusDigits, nil, nil, 10, nil, true},
		{"difference with 0", impl.MinusDigits, []int{0, 7}, nil, 8, []int{0, 7}, true},
		{"0 less another", impl.MinusDigits, nil, []int{1}, 10, nil, false},
		{"difference below 0 by one", impl.MinusDigits, []int{4, 2, 1}, []int{5, 2, 1}, 10, nil, false},
		{"difference below 0 by a place", impl.MinusDigits, []int{9}, []int{0, 1}, 10, nil, false},
		{"difference with borrows", impl.MinusDigits, []int{0, 0, 0, 1}, []int{1}, 16, []int{15, 15, 15}, true},
		{"difference that loses places", impl.MinusDigits, []int{3, 9, 9}, []int{1, 9, 9}, 10, []int{2}, true},
		{"product of nothing", impl.TimesDigits, nil, nil, 10, nil, true},
		{"product with 0", impl.TimesDigits, nines, nil, 10, nil, true},
		{"product of 0 and another", impl.TimesDigits, nil, nines, 10, nil, true},
		{"product with 1", impl.TimesDigits, nines, []int{1}, 10, nines, true},
		{"product with the base", impl.TimesDigits, nines, []int{0, 1}, 10, nil, false},
		{"product of two digits", impl.TimesDigits, []int{15}, []int{15}, 16, []int{1, 14}, true},
		{"product of 60 digits", impl.TimesDigits, nines[:30], nines[:30], 10, append(append([]int{1}, zeros[:29]...), append([]int{8}, nines[:29]...)...), true},
		{"product of 60 digits from 30 and 31", impl.TimesDigits, append(zeros[:29:29], 3), append(zeros[:30:30], 3), 10, append(zeros[:59:59], 9), true},
		{"product of 61 digits from 30 and 31", impl.TimesDigits, append(zeros[:29:29], 4), append(zeros[:30:30], 3), 10, nil, false},
		{"product of 61 digits", impl.TimesDigits, append(zeros[:30:30], 1), append(zeros[:30:30], 1), 10, nil, false},
	}
	for _, c := range cases {
		got, ok := c.f(c.a, c.c, c.b)
		checkList(t, got, ok, c.want, c.ok, c.name)
	}
}

func TestDivideDigitsTable(t *testing.T) {
	nines := slices.Repeat([]int{9}, 60)
	cases := []struct {
		a, c, q, r []int
		b          int
		ok         bool
	}{
		{nil, nil, nil, nil, 10, false}, {[]int{1}, nil, nil, nil, 10, false}, {nines, []int{}, nil, nil, 10, false},
		{nil, []int{1}, nil, nil, 10, true}, {nil, nines, nil, nil, 10, true},
		{nines, []int{1}, nines, nil, 10, true}, {nines, nines, []int{1}, nil, 10, true},
		{[]int{4, 3}, []int{5, 3}, nil, []int{4, 3}, 10, true}, {nines[:59], nines, nil, nines[:59], 10, true},
		{nines, []int{9}, slices.Repeat([]int{1}, 60), nil, 10, true}, {[]int{7, 1}, []int{5}, []int{3}, []int{2}, 10, true},
		{[]int{0, 0, 1}, []int{0, 1}, []int{0, 1}, nil, 2, true}, {[]int{15, 15}, []int{0, 1}, []int{15}, []int{15}, 16, true},
		{[]int{1, 0, 0, 1}, []int{1, 1}, []int{1, 9}, nil, 10, true}, {[]int{5, 0, 3}, []int{3}, []int{1, 0, 1}, []int{2}, 10, true},
	}
	for _, c := range cases {
		q, r, ok := impl.DivideDigits(c.a, c.c, c.b)
		checkList(t, q, ok, c.q, c.ok, "quotient", c.a, c.c, c.b)
		checkList(t, r, ok, c.r, c.ok, "remainder", c.a, c.c, c.b)
	}
}

// The quotient times the divisor and the remainder give the dividend again.
func TestDivideDigitsAgreesWithTheOthers(t *testing.T) {
	for b := 2; b <= 16; b++ {
		for _, a := range longLists(b) {
			for _, c := range longLists(b) {
				q, r, ok := impl.DivideDigits(a, c, b)
				if !ok {
					continue
				}
				product, _ := impl.TimesDigits(q, c, b)
				sum, good := impl.AddDigits(product, r, b)
				if !good || !slices.Equal(sum, a) || impl.CompareDigits(r, c, b) != -1 {
					t.Errorf("DivideDigits(%v, %v, %d) = %v, %v", a, c, b, q, r)
				}
			}
		}
	}
}

// The arithmetic of long numbers is that of the numbers up to MaxNumber.
func TestLongArithmeticAgreesWithDigits(t *testing.T) {
	for b := 2; b <= 16; b++ {
		for _, m := range []int{0, 1, 2, 15, 16, 17, 255, 256, 4095, 65536, 999999} {
			for _, n := range []int{0, 1, 2, 3, 10, 16, 100, 255, 1000, 65535, 1000000} {
				a, c := impl.DigitsOf(m, b), impl.DigitsOf(n, b)
				sum, ok := impl.AddDigits(a, c, b)
				checkList(t, sum, ok, impl.DigitsOf(m+n, b), true, "sum of", m, n, b)
				product, ok := impl.TimesDigits(a, c, b)
				checkList(t, product, ok, impl.DigitsOf(m*n, b), true, "product of", m, n, b)
				back, ok := impl.MinusDigits(sum, c, b)
				checkList(t, back, ok, a, true, "difference of", m+n, n, b)
				for to := 2; to <= 16; to++ {
					other, ok := impl.ConvertDigits(product, b, to)
					checkList(t, other, ok, impl.DigitsOf(m*n, to), true, "conversion of", m*n, b, to)
				}
			}
		}
	}
}

func TestCompareDigitsTable(t *testing.T) {
	long := slices.Repeat([]int{1}, 60)
	more := append(slices.Clone(long[:59]), 2)
	least := append([]int{2}, long[1:]...)
	cases := []struct {
		a, c []int
		b    int
		want int
	}{
		{nil, nil, 10, 0}, {nil, []int{}, 2, 0}, {nil, []int{1}, 10, -1}, {[]int{1}, nil, 10, 1},
		{[]int{9}, []int{0, 1}, 10, -1}, {[]int{0, 1}, []int{9}, 10, 1}, {[]int{9, 1}, []int{1, 9}, 10, -1}, {[]int{1, 9}, []int{9, 1}, 10, 1},
		{[]int{3, 2, 1}, []int{3, 2, 1}, 10, 0}, {[]int{3, 2, 1}, []int{4, 2, 1}, 10, -1}, {[]int{3, 2, 1}, []int{2, 2, 1}, 10, 1},
		{long, long, 16, 0}, {long, more, 16, -1}, {more, long, 16, 1}, {least, long, 16, 1}, {long, least, 16, -1}, {long[1:], long, 2, -1},
		{nil, nil, 1, -2}, {nil, nil, 17, -2}, {[]int{1}, []int{0}, 10, -2}, {[]int{0}, []int{1}, 10, -2}, {[]int{2}, []int{1}, 2, -2}, {[]int{1}, []int{2}, 2, -2},
		{append(slices.Clone(long), 1), long, 2, -2}, {long, append(slices.Clone(long), 1), 2, -2},
	}
	for _, c := range cases {
		if got := impl.CompareDigits(c.a, c.c, c.b); got != c.want {
			t.Errorf("CompareDigits(%v, %v, %d) = %d, want %d", c.a, c.c, c.b, got, c.want)
		}
	}
}

func TestPowerDigits(t *testing.T) {
	for b := 2; b <= 16; b++ {
		for _, a := range longLists(b) {
			x := exactOf(t, a, b)
			for n := range 61 {
				want, good := answer(new(big.Int).Exp(x, big.NewInt(int64(n)), nil), b)
				got, ok := impl.PowerDigits(a, n, b)
				checkList(t, got, ok, want, good, "PowerDigits", a, n, b)
			}
			for _, n := range []int{math.MinInt64, -60, -2, -1, 61, 62, 100, math.MaxInt64} {
				got, ok := impl.PowerDigits(a, n, b)
				checkList(t, got, ok, nil, false, "PowerDigits", a, n, b)
			}
		}
	}
}

func TestPowerDigitsTable(t *testing.T) {
	one := []int{1}
	cases := []struct {
		a    []int
		n, b int
		want []int
		ok   bool
	}{
		{nil, 0, 10, one, true}, {nil, 1, 10, nil, true}, {nil, 60, 10, nil, true}, {nil, 61, 10, nil, false}, {nil, -1, 10, nil, false},
		{one, 0, 2, one, true}, {one, 60, 2, one, true}, {one, 61, 2, nil, false}, {one, -1, 2, nil, false},
		{[]int{9}, 0, 10, one, true}, {slices.Repeat(one, 60), 0, 2, one, true}, {slices.Repeat(one, 60), 1, 2, slices.Repeat(one, 60), true},
		{[]int{0, 1}, 59, 2, append(make([]int, 59), 1), true}, {[]int{0, 1}, 60, 2, nil, false},
		{[]int{0, 1}, 59, 16, append(make([]int, 59), 1), true}, {[]int{0, 1}, 60, 16, nil, false},
		{append(make([]int, 29), 3), 2, 10, append(make([]int, 58), 9), true}, {append(make([]int, 30), 1), 2, 10, nil, false},
		{append(make([]int, 59), 1), 2, 10, nil, false}, {append(make([]int, 59), 1), 60, 10, nil, false},
		{[]int{5}, 3, 10, []int{5, 2, 1}, true}, {[]int{15}, 2, 16, []int{1, 14}, true},
	}
	for _, c := range cases {
		got, ok := impl.PowerDigits(c.a, c.n, c.b)
		checkList(t, got, ok, c.want, c.ok, "PowerDigits", c.a, c.n, c.b)
	}
	// In base 10, 2^59 has 18 digits, 9^60 has 58 and 11^57 has 60.
	for a := range 200 {
		for n := range 61 {
			want, good := answer(new(big.Int).Exp(big.NewInt(int64(a)), big.NewInt(int64(n)), nil), 10)
			got, ok := impl.PowerDigits(listOf(textOf(a, 10)), n, 10)
			checkList(t, got, ok, want, good, "PowerDigits", a, n, 10)
		}
	}
}

func TestRootDigits(t *testing.T) {
	check := func(x *big.Int, b int) {
		a, good := answer(x, b)
		if !good {
			return
		}
		got, ok := impl.RootDigits(a, b)
		checkList(t, got, ok, listOf(new(big.Int).Sqrt(x).Text(b)), true, "RootDigits", a, b)
	}
	for b := 2; b <= 16; b++ {
		for n := range 1100 {
			check(big.NewInt(int64(n)), b)
		}
		for _, a := range longLists(b) {
			x := exactOf(t, a, b)
			check(x, b)
			square := new(big.Int).Mul(x, x)
			for i := int64(-2); i <= 2; i++ {
				check(new(big.Int).Add(square, big.NewInt(i)), b)
			}
		}
		for places := range 61 {
			check(powerOf(b, places), b)
			check(new(big.Int).Sub(powerOf(b, places), big.NewInt(1)), b)
		}
	}
}

func TestConvertDigits(t *testing.T) {
	refused := 0
	for from := 2; from <= 16; from++ {
		for _, a := range longLists(from) {
			x := exactOf(t, a, from)
			for to := 2; to <= 16; to++ {
				want, good := answer(x, to)
				got, ok := impl.ConvertDigits(a, from, to)
				checkList(t, got, ok, want, good, "ConvertDigits", a, from, to)
				if !good {
					refused++
					continue
				}
				back, ok := impl.ConvertDigits(got, to, from)
				checkList(t, back, ok, a, true, "ConvertDigits back", got, to, from)
			}
			for _, to := range badBases() {
				got, ok := impl.ConvertDigits(a, from, to)
				checkList(t, got, ok, nil, false, "ConvertDigits", a, from, to)
			}
		}
	}
	if refused == 0 {
		t.Error("no number was too long in another base")
	}
}

func TestConvertDigitsTable(t *testing.T) {
	ones := slices.Repeat([]int{1}, 60)
	highest := slices.Repeat([]int{15}, 15)
	cases := []struct {
		a        []int
		from, to int
		want     []int
		ok       bool
	}{
		{nil, 2, 16, nil, true}, {nil, 16, 2, nil, true}, {nil, 10, 10, nil, true}, {nil, 10, 1, nil, false}, {nil, 1, 10, nil, false}, {nil, 17, 10, nil, false},
		{ones, 2, 16, highest, true}, {highest, 16, 2, ones, true}, {ones, 2, 2, ones, true},
		{append(make([]int, 15), 1), 16, 2, nil, false}, {append(make([]int, 14), 8), 16, 2, append(make([]int, 59), 1), true},
		{slices.Repeat([]int{15}, 60), 16, 16, slices.Repeat([]int{15}, 60), true}, {slices.Repeat([]int{15}, 60), 16, 15, nil, false},
		{[]int{0, 1}, 16, 2, []int{0, 0, 0, 0, 1}, true}, {[]int{15}, 16, 2, []int{1, 1, 1, 1}, true}, {[]int{5, 5, 2}, 10, 16, []int{15, 15}, true},
		{[]int{2}, 2, 10, nil, false}, {[]int{2}, 3, 2, []int{0, 1}, true}, {[]int{1}, 10, 17, nil, false}, {[]int{1}, 10, 0, nil, false},
		{[]int{1}, 1, 10, nil, false}, {[]int{1}, 17, 10, nil, false}, {append(slices.Clone(ones), 1), 2, 16, nil, false},
	}
	for _, c := range cases {
		got, ok := impl.ConvertDigits(c.a, c.from, c.to)
		checkList(t, got, ok, c.want, c.ok, "ConvertDigits", c.a, c.from, c.to)
	}
}

// wrongLists lists what is no digits in base b.
func wrongLists(b int) [][]int {
	long := append(make([]int, 60), 1)
	within := slices.Repeat([]int{1}, 60)
	within[30] = b
	return [][]int{
		{0}, {1, 0}, {0, 0, 0}, {b}, {1, b}, {b, 1}, {b + 1}, {-1}, {-1, 1}, {1, -1}, {math.MinInt64, 1}, {1, math.MaxInt64},
		long, within, make([]int, 60), make([]int, 61), slices.Repeat([]int{1}, 1000),
	}
}

// checkRefused asks every function for a and c, of which one or the base is wrong.
func checkRefused(t *testing.T, a, c []int, b int) {
	t.Helper()
	sum, ok := impl.AddDigits(a, c, b)
	checkList(t, sum, ok, nil, false, "AddDigits", a, c, b)
	rest, ok := impl.MinusDigits(a, c, b)
	checkList(t, rest, ok, nil, false, "MinusDigits", a, c, b)
	product, ok := impl.TimesDigits(a, c, b)
	checkList(t, product, ok, nil, false, "TimesDigits", a, c, b)
	if order := impl.CompareDigits(a, c, b); order != -2 {
		t.Errorf("CompareDigits(%v, %v, %d) = %d", a, c, b, order)
	}
	quotient, remainder, ok := impl.DivideDigits(a, c, b)
	checkList(t, quotient, ok, nil, false, "quotient of DivideDigits", a, c, b)
	checkList(t, remainder, ok, nil, false, "remainder of DivideDigits", a, c, b)
}

func checkOneRefused(t *testing.T, a []int, b int) {
	t.Helper()
	for _, n := range []int{-1, 0, 1, 2, 60, 61} {
		power, ok := impl.PowerDigits(a, n, b)
		checkList(t, power, ok, nil, false, "PowerDigits", a, n, b)
	}
	root, ok := impl.RootDigits(a, b)
	checkList(t, root, ok, nil, false, "RootDigits", a, b)
	for _, to := range []int{-10, 0, 1, 2, 10, 16, 17} {
		other, ok := impl.ConvertDigits(a, b, to)
		checkList(t, other, ok, nil, false, "ConvertDigits", a, b, to)
	}
}

func TestLongNumbersOfWrongLists(t *testing.T) {
	for b := 2; b <= 16; b++ {
		for _, wrong := range wrongLists(b) {
			for _, right := range [][]int{nil, {1}, {b - 1, 1}, slices.Repeat([]int{b - 1}, 60)} {
				checkRefused(t, wrong, right, b)
				checkRefused(t, right, wrong, b)
			}
			checkRefused(t, wrong, wrong, b)
			checkOneRefused(t, wrong, b)
		}
	}
}

func TestLongNumbersOfWrongBases(t *testing.T) {
	lists := [][]int{nil, {}, {1}, {0, 1}, {1, 1, 1}, {9, 9}, {0}, {2}, slices.Repeat([]int{1}, 60)}
	for _, b := range badBases() {
		for _, a := range lists {
			for _, c := range lists {
				checkRefused(t, a, c, b)
			}
			checkOneRefused(t, a, b)
		}
	}
}

// longCalls are calls with two arguments that give one or two lists.
func longCalls() map[string]func(a, c []int) [][]int {
	one := func(f func([]int, []int, int) ([]int, bool)) func(a, c []int) [][]int {
		return func(a, c []int) [][]int {
			list, _ := f(a, c, 10)
			return [][]int{list}
		}
	}
	return map[string]func(a, c []int) [][]int{
		"AddDigits":   one(impl.AddDigits),
		"MinusDigits": one(impl.MinusDigits),
		"TimesDigits": one(impl.TimesDigits),
		"CompareDigits": func(a, c []int) [][]int {
			return [][]int{{impl.CompareDigits(a, c, 10)}}
		},
		"DivideDigits": func(a, c []int) [][]int {
			q, r, _ := impl.DivideDigits(a, c, 10)
			return [][]int{q, r}
		},
		"PowerDigits": func(a, c []int) [][]int {
			none, _ := impl.PowerDigits(a, 0, 10)
			first, _ := impl.PowerDigits(a, 1, 10)
			third, _ := impl.PowerDigits(c, 3, 10)
			return [][]int{none, first, third}
		},
		"RootDigits": func(a, c []int) [][]int {
			one, _ := impl.RootDigits(a, 10)
			other, _ := impl.RootDigits(c, 10)
			return [][]int{one, other}
		},
		"ConvertDigits": func(a, c []int) [][]int {
			same, _ := impl.ConvertDigits(a, 10, 10)
			other, _ := impl.ConvertDigits(c, 10, 16)
			return [][]int{same, other}
		},
	}
}

func cloneAll(lists [][]int) [][]int {
	copies := [][]int{}
	for _, l := range lists {
		copies = append(copies, slices.Clone(l))
	}
	return copies
}

// spoil writes over a list and the memory behind it.
func spoil(list []int) {
	list = list[:cap(list)]
	for i := range list {
		list[i] = -7
	}
}

// checkMemory asks whether a call writes into its arguments or behind them, and whether its results are new memory.
func checkMemory(t *testing.T, name string, call func(a, c []int) [][]int, pair [2][]int) {
	t.Helper()
	m, n := len(pair[0]), len(pair[1])
	// The memory behind the digits is seen by the caller.
	a := append(slices.Clone(pair[0]), 77, 78, 79, 80)
	c := append(slices.Clone(pair[1]), 87, 88, 89, 90)
	before := [][]int{slices.Clone(a), slices.Clone(c)}
	results := call(a[:m], c[:n])
	kept := cloneAll(results)
	for i := range results {
		spoil(results[i])
		for j := range results {
			if j > i && !slices.Equal(results[j], kept[j]) {
				t.Errorf("%s of %v: two results share memory", name, pair)
			}
		}
	}
	if !slices.Equal(a, before[0]) || !slices.Equal(c, before[1]) {
		t.Errorf("%s of %v: the arguments and what is behind them are %v and %v", name, pair, a, c)
	}
	for i, again := range call(a[:m], c[:n]) {
		if !slices.Equal(again, kept[i]) {
			t.Errorf("%s of %v: a second call returns %v", name, pair, again)
		}
	}
}

// memoryPairs are arguments in base 10 for checkMemory.
func memoryPairs() [][2][]int {
	return [][2][]int{
		{{3, 2, 1}, {2, 1}}, {{3, 2, 1}, {}}, {{}, {3, 2, 1}}, {{3, 2, 1}, {1}}, {{1}, {3, 2, 1}},
		{{3, 2, 1}, {3, 2, 1}}, {{3, 2, 1}, {3, 2, 9}}, {{0, 0, 0, 1}, {1}}, {{}, {}}, {{9, 9}, {9, 9, 9}},
	}
}

func TestLongResultsShareNoMemory(t *testing.T) {
	for name, call := range longCalls() {
		for _, pair := range memoryPairs() {
			checkMemory(t, name, call, pair)
		}
	}
}

// One list may be both arguments of a call.
func TestLongNumbersOfOneList(t *testing.T) {
	for b := 2; b <= 16; b++ {
		for _, a := range longLists(b) {
			before := slices.Clone(a)
			checkPair(t, a, a, b)
			if !slices.Equal(a, before) {
				t.Errorf("%v in base %d became %v", before, b, a)
			}
		}
	}
}
