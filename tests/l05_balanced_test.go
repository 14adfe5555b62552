package tests

import (
	"math"
	"math/big"
	"slices"
	"strings"
	"testing"

	"loop.example/g03203/impl"
)

func balancedBases() []int { return []int{3, 5, 7, 9, 11, 13, 15} }

func unbalancedBases() []int {
	return append(badBases(), 2, 4, 6, 8, 10, 12, 14, 16, 19, -3, -5, -15, math.MaxInt64-1, math.MinInt64+1)
}

// balancedListOf finds balanced digits without carrying: after h is added at every place, the digits in base b are those wanted, each greater by h.
func balancedListOf(n *big.Int, b int) []int {
	const places = 70
	h := b / 2
	added, _ := new(big.Int).SetString(strings.Repeat("0123456789abcdef"[h:h+1], places), b)
	list := listOf(added.Add(added, n).Text(b))
	list = append(list, make([]int, places-len(list))...)
	for k := range list {
		list[k] -= h
	}
	for len(list) > 0 && list[len(list)-1] == 0 {
		list = list[:len(list)-1]
	}
	return slices.Clip(list)
}

func balancedList(n, b int) []int { return balancedListOf(big.NewInt(int64(n)), b) }

// balancedExact adds the places of any list one by one.
func balancedExact(digits []int, b int) *big.Int { return negaExact(digits, -b) }

// balancedAnswer is what a function that returns balanced digits should return for an exact integer.
func balancedAnswer(exact *big.Int, b int) ([]int, bool) {
	list := balancedListOf(exact, b)
	if len(list) > 60 {
		return nil, false
	}
	return list, true
}

// longBalancedLists lists balanced digits in base b of many lengths, up to 60.
func longBalancedLists(b int) [][]int {
	h := b / 2
	lists := [][]int{nil, {}}
	state := 54321
	for _, count := range []int{1, 2, 7, 31, 59, 60} {
		zeros := append(make([]int, count-1), 1)
		top := append(make([]int, count-1), h)
		full := slices.Repeat([]int{h}, count)
		ones := slices.Repeat([]int{1}, count)
		// All the places below count in the other direction.
		against := append(slices.Repeat([]int{-h}, count-1), 1)
		mixed, turning := make([]int, count), make([]int, count)
		for k := range count {
			state = (state*1103515245 + 12345) % 2147483648
			mixed[k] = state/65536%b - h
			turning[k] = h * (1 - k%2*2)
		}
		mixed[count-1] = 1 + count%h
		beside := slices.Clone(full)
		beside[0] = h - 1
		lists = append(lists, zeros, top, full, ones, against, mixed, turning, beside)
		for _, list := range [][]int{zeros, top, full, ones, against, mixed, turning, beside} {
			opposite := []int{}
			for _, d := range list {
				opposite = append(opposite, -d)
			}
			lists = append(lists, opposite)
		}
	}
	return slices.DeleteFunc(lists, func(l []int) bool { return len(l) > 0 && l[len(l)-1] == 0 })
}

// wrongBalancedLists lists what is no balanced digits in base b.
func wrongBalancedLists(b int) [][]int {
	h := b / 2
	high := slices.Repeat([]int{1}, 60)
	high[30] = h + 1
	low := slices.Repeat([]int{-1}, 60)
	low[0] = -h - 1
	return [][]int{
		{0}, {1, 0}, {-1, 0}, {0, 0, 0}, {h + 1}, {-h - 1}, {1, h + 1}, {1, -h - 1}, {h + 1, 1}, {-h - 1, 1}, {b}, {-b}, {b - 1, 1}, {b, 1}, {0, b, 1},
		{math.MinInt64}, {math.MaxInt64}, {math.MinInt64, 1}, {math.MaxInt64, 1}, {1, math.MinInt64, 1}, {1, math.MaxInt64},
		append(make([]int, 60), 1), append(make([]int, 60), -1), high, low, make([]int, 60), make([]int, 61), slices.Repeat([]int{1}, 61), slices.Repeat([]int{1}, 1000),
	}
}

func TestBalancedOk(t *testing.T) {
	for b := 3; b <= 15; b += 2 {
		h := b / 2
		for _, list := range listsOver(upTo(-h-1, h+1), 3) {
			want := len(list) == 0 || list[len(list)-1] != 0 && !slices.Contains(list, h+1) && !slices.Contains(list, -h-1)
			if got := impl.BalancedOk(list, b); got != want {
				t.Errorf("BalancedOk(%v, %d) = %v", list, b, got)
			}
		}
		for _, list := range longBalancedLists(b) {
			if !impl.BalancedOk(list, b) {
				t.Errorf("BalancedOk(%v, %d) is false", list, b)
			}
		}
		for _, list := range wrongBalancedLists(b) {
			if impl.BalancedOk(list, b) {
				t.Errorf("BalancedOk(%v, %d) is true", list, b)
			}
		}
	}
	for _, b := range unbalancedBases() {
		for _, list := range [][]int{nil, {}, {1}, {-1}, {0, 1}, {-1, 0, 1}, {0}, {2}, {b}} {
			if impl.BalancedOk(list, b) {
				t.Errorf("BalancedOk(%v, %d) is true", list, b)
			}
		}
	}
}

func TestBalancedDigitsTable(t *testing.T) {
	cases := []struct {
		n, b int
		want []int
	}{
		{0, 3, nil}, {0, 15, nil}, {1, 3, []int{1}}, {-1, 3, []int{-1}}, {1, 15, []int{1}}, {-1, 15, []int{-1}}, {2, 3, []int{-1, 1}}, {-2, 3, []int{1, -1}},
		{3, 3, []int{0, 1}}, {4, 3, []int{1, 1}}, {5, 3, []int{-1, -1, 1}}, {8, 3, []int{-1, 0, 1}}, {-8, 3, []int{1, 0, -1}}, {13, 3, []int{1, 1, 1}}, {14, 3, []int{-1, -1, -1, 1}},
		{2, 5, []int{2}}, {3, 5, []int{-2, 1}}, {-2, 5, []int{-2}}, {-3, 5, []int{2, -1}}, {12, 5, []int{2, 2}}, {13, 5, []int{-2, -2, 1}}, {25, 5, []int{0, 0, 1}},
		{7, 15, []int{7}}, {8, 15, []int{-7, 1}}, {-7, 15, []int{-7}}, {-8, 15, []int{7, -1}}, {112, 15, []int{7, 7}}, {113, 15, []int{-7, -7, 1}}, {225, 15, []int{0, 0, 1}},
		{282429536481, 9, append(make([]int, 12), 1)}, {-282429536481, 9, append(make([]int, 12), -1)}, {847288609443, 3, append(make([]int, 25), 1)},
	}
	for _, c := range cases {
		if got := impl.BalancedDigits(c.n, c.b); !slices.Equal(got, c.want) {
			t.Errorf("BalancedDigits(%d, %d) = %v, want %v", c.n, c.b, got, c.want)
		}
		if n, ok := impl.BalancedValue(c.want, c.b); !ok || n != c.n {
			t.Errorf("BalancedValue(%v, %d) = %d, %v, want %d", c.want, c.b, n, ok, c.n)
		}
	}
}

func TestBalancedDigitsOfIntegers(t *testing.T) {
	for _, n := range someIntegers() {
		for _, b := range balancedBases() {
			want := balancedList(n, b)
			got := impl.BalancedDigits(n, b)
			if !slices.Equal(got, want) || !impl.BalancedOk(got, b) || balancedExact(got, b).Cmp(big.NewInt(int64(n))) != 0 {
				t.Fatalf("BalancedDigits(%d, %d) = %v, want %v", n, b, got, want)
			}
			if value, ok := impl.BalancedValue(want, b); !ok || value != n {
				t.Errorf("BalancedValue(%v, %d) = %d, %v, want %d", want, b, value, ok, n)
			}
			if negated := impl.NegateDigits(got); !slices.Equal(negated, impl.BalancedDigits(-n, b)) {
				t.Errorf("NegateDigits(%v) = %v, but %d has the digits %v", got, negated, -n, impl.BalancedDigits(-n, b))
			}
		}
	}
}

func TestNoBalancedDigits(t *testing.T) {
	for _, n := range integersBeyond() {
		for _, b := range balancedBases() {
			if got := impl.BalancedDigits(n, b); len(got) != 0 {
				t.Errorf("BalancedDigits(%d, %d) = %v", n, b, got)
			}
		}
	}
	for _, b := range unbalancedBases() {
		for _, n := range append(integersBeyond(), 0, 1, -1, 2, 10, -10, maxNumber, -maxNumber) {
			if got := impl.BalancedDigits(n, b); len(got) != 0 {
				t.Errorf("BalancedDigits(%d, %d) = %v", n, b, got)
			}
		}
	}
}

// The lists of at most most digits are those of the integers that are nearest to 0, each once.
func TestEachIntegerHasOneBalancedList(t *testing.T) {
	for _, b := range balancedBases() {
		most := map[int]int{3: 6, 5: 5, 7: 4}[b]
		if most == 0 {
			most = 3
		}
		found := map[int]bool{}
		least, greatest := 0, 0
		for _, list := range listsOver(upTo(-b/2, b/2), most) {
			n, ok := impl.BalancedValue(list, b)
			if len(list) > 0 && list[len(list)-1] == 0 {
				if ok || n != 0 {
					t.Errorf("BalancedValue(%v, %d) = %d, %v", list, b, n, ok)
				}
				continue
			}
			if !ok || found[n] || !slices.Equal(impl.BalancedDigits(n, b), list) {
				t.Errorf("BalancedValue(%v, %d) = %d, %v, with the digits %v", list, b, n, ok, impl.BalancedDigits(n, b))
			}
			found[n] = true
			least, greatest = min(least, n), max(greatest, n)
		}
		count := int(powerOf(b, most).Int64())
		if len(found) != count || greatest != count/2 || least != -greatest {
			t.Errorf("in base %d, there are %d integers from %d to %d, want %d", b, len(found), least, greatest, count)
		}
	}
}

func TestBalancedValueAtTheLimits(t *testing.T) {
	for _, b := range balancedBases() {
		for _, middle := range []int{maxNumber, -maxNumber} {
			for n := middle - 300; n <= middle+300; n++ {
				list := balancedList(n, b)
				want, good := n, n >= -maxNumber && n <= maxNumber
				if !good {
					want = 0
				}
				if got, ok := impl.BalancedValue(list, b); got != want || ok != good {
					t.Errorf("BalancedValue(%v, %d) = %d, %v, the digits are those of %d", list, b, got, ok, n)
				}
			}
		}
		for _, n := range integersBeyond() {
			list := balancedList(n, b)
			if got, ok := impl.BalancedValue(list, b); got != 0 || ok {
				t.Errorf("BalancedValue(%v, %d) = %d, %v, the digits are those of %d", list, b, got, ok, n)
			}
		}
	}
}

// Lists of up to 60 digits wrap an int around many times, also to 0 and to small integers.
func TestBalancedValueOfLongLists(t *testing.T) {
	for _, b := range balancedBases() {
		lists := longBalancedLists(b)
		for count := 1; count <= 60; count++ {
			lists = append(lists, append(make([]int, count-1), 1), append(make([]int, count-1), -b/2), append(slices.Repeat([]int{-b / 2}, count-1), 1))
		}
		for _, n := range []int{0, 1, -1, 5, -5, maxNumber, -maxNumber} {
			for turns := int64(-3); turns <= 3; turns++ {
				// 64 bits of these are those of n.
				exact := new(big.Int).Mul(big.NewInt(turns), powerOf(2, 64))
				list := balancedListOf(exact.Add(exact, big.NewInt(int64(n))), b)
				if len(list) <= 60 {
					lists = append(lists, list)
				}
			}
		}
		for _, list := range lists {
			exact := balancedExact(list, b)
			want := 0
			if within(exact) {
				want = int(exact.Int64())
			}
			if got, ok := impl.BalancedValue(list, b); got != want || ok != within(exact) {
				t.Errorf("BalancedValue(%v, %d) = %d, %v, want %v", list, b, got, ok, exact)
			}
		}
	}
}

func TestNegateDigits(t *testing.T) {
	cases := []struct{ list, want []int }{
		{nil, nil}, {[]int{}, nil}, {[]int{0}, []int{0}}, {[]int{1}, []int{-1}}, {[]int{-1}, []int{1}}, {[]int{-1, 0, 1}, []int{1, 0, -1}}, {[]int{0, 0}, []int{0, 0}},
		{[]int{1, 2, 0}, []int{-1, -2, 0}}, {[]int{100, -16, 7}, []int{-100, 16, -7}}, {[]int{maxNumber, -maxNumber}, []int{-maxNumber, maxNumber}},
		{[]int{math.MaxInt64, -math.MaxInt64}, []int{-math.MaxInt64, math.MaxInt64}},
		// The least 64-bit integer is its own negative.
		{[]int{math.MinInt64}, []int{math.MinInt64}}, {[]int{5, math.MinInt64, -5}, []int{-5, math.MinInt64, 5}}, {[]int{math.MinInt64 + 1}, []int{math.MaxInt64}},
		{slices.Repeat([]int{3}, 60), slices.Repeat([]int{-3}, 60)}, {slices.Repeat([]int{-3}, 61), slices.Repeat([]int{3}, 61)}, {slices.Repeat([]int{1, 0}, 2000), slices.Repeat([]int{-1, 0}, 2000)},
	}
	for _, c := range cases {
		if got := impl.NegateDigits(c.list); !slices.Equal(got, c.want) {
			t.Errorf("NegateDigits(%v) = %v", c.list, got)
		}
		if got := impl.NegateDigits(c.want); !slices.Equal(got, c.list) {
			t.Errorf("NegateDigits(%v) = %v", c.want, got)
		}
	}
}

func checkBalancedPair(t *testing.T, a, c []int, b int) {
	t.Helper()
	x, y := balancedExact(a, b), balancedExact(c, b)
	sum, good := balancedAnswer(new(big.Int).Add(x, y), b)
	got, ok := impl.BalancedAdd(a, c, b)
	checkList(t, got, ok, sum, good, "BalancedAdd", a, c, b)
	if order := impl.BalancedCompare(a, c, b); order != x.Cmp(y) {
		t.Errorf("BalancedCompare(%v, %v, %d) = %d, want %d", a, c, b, order, x.Cmp(y))
	}
}

func TestBalancedArithmeticOfSmallIntegers(t *testing.T) {
	for _, b := range balancedBases() {
		for m := -45; m <= 45; m++ {
			for n := -45; n <= 45; n++ {
				checkBalancedPair(t, balancedList(m, b), balancedList(n, b), b)
			}
		}
	}
}

func TestBalancedArithmeticOfLongLists(t *testing.T) {
	for _, b := range balancedBases() {
		lists := longBalancedLists(b)
		for _, a := range lists {
			for _, c := range lists {
				checkBalancedPair(t, a, c, b)
			}
		}
	}
}

// The integers have no limit: MaxNumber and 64 bits are passed without notice.
func TestBalancedArithmeticOfGreatIntegers(t *testing.T) {
	numbers := append(integersBeyond(), 0, 1, -1, maxNumber, -maxNumber, maxNumber-1, 1-maxNumber, maxNumber/2, 1<<32, -1<<40)
	for _, b := range balancedBases() {
		for _, m := range numbers {
			for _, n := range numbers {
				checkBalancedPair(t, balancedList(m, b), balancedList(n, b), b)
			}
		}
	}
}

func TestBalancedAddTable(t *testing.T) {
	zeros := make([]int, 59)
	ones := slices.Repeat([]int{1}, 60)
	minus := slices.Repeat([]int{-1}, 60)
	sevens := slices.Repeat([]int{7}, 60)
	cases := []struct {
		name string
		a, c []int
		b    int
		want []int
		ok   bool
	}{
		{"nothing", nil, nil, 3, nil, true},
		{"a list and nothing", []int{-1, 0, 1}, nil, 3, []int{-1, 0, 1}, true},
		{"nothing and a list", nil, []int{-1, 0, 1}, 3, []int{-1, 0, 1}, true},
		{"a carry", []int{1}, []int{1}, 3, []int{-1, 1}, true},
		{"a carry below 0", []int{-1}, []int{-1}, 3, []int{1, -1}, true},
		{"carries through all places", ones[:59], ones[:1], 3, append(slices.Clone(minus[:59]), 1), true},
		{"no carry at h", []int{3}, []int{4}, 15, []int{7}, true},
		{"no carry at -h", []int{-3}, []int{-4}, 15, []int{-7}, true},
		{"a carry beyond h", []int{4}, []int{4}, 15, []int{-7, 1}, true},
		{"a carry beyond -h", []int{-4}, []int{-4}, 15, []int{7, -1}, true},
		{"a sum of b", []int{7, 7}, []int{7, 1}, 15, []int{-1, -6, 1}, true},
		{"a digit and a carry that are b", []int{1, 1}, []int{1, 1}, 3, []int{-1, 0, 1}, true},
		{"opposite lists", []int{-1, 0, 1}, []int{1, 0, -1}, 3, nil, true},
		{"opposite lists of 60 digits", ones, minus, 3, nil, true},
		{"a sum that loses places", []int{1, 1, 1}, []int{0, -1, -1}, 3, []int{1}, true},
		{"a sum that keeps zeros", []int{1, 1, 1}, []int{-1, -1}, 3, []int{0, 0, 1}, true},
		{"60 digits", append(slices.Clone(sevens[:59]), 6), append(slices.Clone(zeros), 1), 15, sevens, true},
		{"60 digits by a carry", ones[:59], append([]int{1}, append(make([]int, 57), 1)...), 3, append(slices.Clone(minus[:58]), 0, 1), true},
		{"60 digits and 60 others", append(slices.Clone(zeros), 3), append(slices.Clone(zeros), 4), 15, append(slices.Clone(zeros), 7), true},
		{"61 digits", sevens, []int{1}, 15, nil, false},
		{"61 digits below 0", slices.Repeat([]int{-7}, 60), []int{-1}, 15, nil, false},
		{"61 digits from halves", append(slices.Clone(zeros), 4), append(slices.Clone(zeros), 4), 15, nil, false},
		{"61 digits from ones", ones, ones, 3, nil, false},
		{"61 digits from 60 and 1", ones, ones[:1], 3, nil, false},
		{"60 digits less than before", ones, minus[:1], 3, append([]int{0}, ones[1:]...), true},
	}
	for _, c := range cases {
		got, ok := impl.BalancedAdd(c.a, c.c, c.b)
		checkList(t, got, ok, c.want, c.ok, c.name)
		got, ok = impl.BalancedAdd(c.c, c.a, c.b)
		checkList(t, got, ok, c.want, c.ok, c.name, " turned")
	}
}

// The sums and the order are those of the digits in base b and in base -b.
func TestBalancedArithmeticAgreesWithTheOthers(t *testing.T) {
	for _, b := range balancedBases() {
		for _, m := range []int{0, 1, 2, 15, 16, 17, 100, 255, 4095, 65536, 999999, maxNumber / 2} {
			for _, n := range []int{0, 1, 3, 10, 16, 99, 256, 1000, 65535, 999999, maxNumber / 2} {
				sum, _ := impl.AddDigits(impl.DigitsOf(m, b), impl.DigitsOf(n, b), b)
				s, _ := impl.ValueOf(sum, b)
				got, ok := impl.BalancedAdd(impl.BalancedDigits(m, b), impl.BalancedDigits(n, b), b)
				checkList(t, got, ok, impl.BalancedDigits(s, b), true, "BalancedAdd of", m, n, b)
				difference, _ := impl.NegaAdd(impl.NegaDigits(m, b), impl.NegaDigits(-n, b), b)
				d, _ := impl.NegaValue(difference, b)
				got, ok = impl.BalancedAdd(impl.BalancedDigits(m, b), impl.NegateDigits(impl.BalancedDigits(n, b)), b)
				checkList(t, got, ok, impl.BalancedDigits(d, b), true, "BalancedAdd of", m, -n, b)
				order := impl.CompareDigits(impl.DigitsOf(m, b), impl.DigitsOf(n, b), b)
				if impl.BalancedCompare(impl.BalancedDigits(m, b), impl.BalancedDigits(n, b), b) != order || impl.BalancedCompare(impl.BalancedDigits(-m, b), impl.BalancedDigits(-n, b), b) != -order {
					t.Errorf("BalancedCompare of %d and %d in base %d differs from CompareDigits", m, n, b)
				}
			}
		}
	}
}

func TestBalancedCompareOfListsThatDifferInOnePlace(t *testing.T) {
	for _, b := range balancedBases() {
		h := b / 2
		for k := range 60 {
			more := slices.Repeat([]int{1}, 60)
			less := slices.Clone(more)
			less[k] = -1
			check := func(want int, a, c []int) {
				t.Helper()
				if got := impl.BalancedCompare(a, c, b); got != want {
					t.Errorf("BalancedCompare(%v, %v, %d) = %d, want %d", a, c, b, got, want)
				}
			}
			check(-1, less, more)
			check(1, more, less)
			check(0, more, slices.Clone(more))
			// The places below count all in the other direction, and are still too little.
			for i := range k {
				less[i], more[i] = h, -h
			}
			check(-1, less, more)
			check(1, more, less)
		}
	}
}

func TestBalancedCompareTable(t *testing.T) {
	ones := slices.Repeat([]int{1}, 60)
	minus := slices.Repeat([]int{-1}, 60)
	cases := []struct {
		a, c []int
		b    int
		want int
	}{
		{nil, nil, 3, 0}, {nil, []int{}, 15, 0}, {nil, []int{1}, 3, -1}, {[]int{1}, nil, 3, 1}, {nil, []int{-1}, 3, 1}, {[]int{-1}, nil, 3, -1},
		{[]int{-1, 1}, []int{1}, 3, 1}, {[]int{1}, []int{-1, 1}, 3, -1}, {[]int{1, -1}, []int{-1}, 3, -1}, {[]int{-1}, []int{1, -1}, 3, 1}, {[]int{1, -1}, []int{1}, 3, -1},
		{[]int{-1, -1, 1}, []int{1, 1}, 3, 1}, {[]int{1, 1, -1}, []int{-1, -1}, 3, -1}, {[]int{-7, 1}, []int{7}, 15, 1}, {[]int{7, -1}, []int{-7}, 15, -1},
		{[]int{3, 2, 1}, []int{3, 2, 1}, 7, 0}, {[]int{3, 2, 1}, []int{2, 2, 1}, 7, 1}, {[]int{3, 2, 1}, []int{-3, 3, 1}, 7, -1},
		{ones, ones, 3, 0}, {minus, minus, 3, 0}, {ones, minus, 3, 1}, {minus, ones, 3, -1}, {ones, ones[:59], 3, 1}, {minus, minus[:59], 3, -1}, {ones[:59], minus, 3, 1},
		{nil, nil, 1, -2}, {nil, nil, 2, -2}, {nil, nil, 4, -2}, {nil, nil, 14, -2}, {nil, nil, 16, -2}, {nil, nil, 17, -2}, {nil, nil, -3, -2}, {[]int{5}, nil, 3, -2},
		{[]int{1}, []int{0}, 3, -2}, {[]int{0}, []int{1}, 3, -2}, {[]int{2}, nil, 3, -2}, {nil, []int{2}, 3, -2}, {nil, []int{-2}, 3, -2},
		{append(slices.Clone(ones), 1), ones, 3, -2}, {ones, append(slices.Clone(ones), 1), 3, -2},
	}
	for _, c := range cases {
		if got := impl.BalancedCompare(c.a, c.c, c.b); got != c.want {
			t.Errorf("BalancedCompare(%v, %v, %d) = %d, want %d", c.a, c.c, c.b, got, c.want)
		}
	}
}

// nearest divides by b to the power of k; no integer is halfway, because b is odd.
func nearest(n *big.Int, b, k int) *big.Int {
	power := powerOf(b, k)
	twice := new(big.Int).Lsh(n, 1)
	// Euclidean division rounds down, also below 0.
	return new(big.Int).Div(twice.Add(twice, power), new(big.Int).Lsh(power, 1))
}

func TestDropPlaces(t *testing.T) {
	for _, b := range balancedBases() {
		lists := longBalancedLists(b)
		for n := -150; n <= 150; n++ {
			lists = append(lists, balancedList(n, b))
		}
		for _, list := range lists {
			exact := balancedExact(list, b)
			for k := range 61 {
				got, ok := impl.DropPlaces(list, b, k)
				checkList(t, got, ok, list[min(k, len(list)):], true, "DropPlaces", list, b, k)
				if want := nearest(exact, b, k); balancedExact(got, b).Cmp(want) != 0 || !impl.BalancedOk(got, b) {
					t.Errorf("DropPlaces(%v, %d, %d) = %v, want the digits of %v", list, b, k, got, want)
				}
			}
			for _, k := range []int{math.MinInt64, -60, -2, -1, 61, 62, 100, math.MaxInt64} {
				got, ok := impl.DropPlaces(list, b, k)
				checkList(t, got, ok, nil, false, "DropPlaces", list, b, k)
			}
		}
	}
}

func TestDropPlacesTable(t *testing.T) {
	ones := slices.Repeat([]int{1}, 60)
	cases := []struct {
		digits []int
		b, k   int
		want   []int
		ok     bool
	}{
		{nil, 3, 0, nil, true}, {nil, 3, 1, nil, true}, {nil, 3, 60, nil, true}, {nil, 3, -1, nil, false}, {nil, 3, 61, nil, false},
		{[]int{-1, 0, 1}, 3, 0, []int{-1, 0, 1}, true}, {[]int{-1, 0, 1}, 3, 1, []int{0, 1}, true}, {[]int{-1, 0, 1}, 3, 2, []int{1}, true},
		{[]int{-1, 0, 1}, 3, 3, nil, true}, {[]int{-1, 0, 1}, 3, 4, nil, true}, {[]int{-1, 0, 1}, 3, 60, nil, true}, {[]int{-1, 0, 1}, 3, 61, nil, false}, {[]int{-1, 0, 1}, 3, -1, nil, false},
		// Zeros next to the dropped digits stay: they are not the last ones.
		{[]int{1, 0, 0, 0, -1}, 3, 1, []int{0, 0, 0, -1}, true}, {[]int{1, 0, 0, 0, -1}, 3, 2, []int{0, 0, -1}, true}, {[]int{0, 0, 0, 1}, 3, 3, []int{1}, true}, {[]int{0, 0, 0, 1}, 3, 4, nil, true},
		{[]int{2, 1}, 5, 1, []int{1}, true}, {[]int{-2, 1}, 5, 1, []int{1}, true}, {[]int{2}, 5, 1, nil, true}, {[]int{7, 7}, 15, 1, []int{7}, true}, {[]int{-7, -7}, 15, 1, []int{-7}, true},
		{ones, 3, 0, ones, true}, {ones, 3, 1, ones[:59], true}, {ones, 3, 59, ones[:1], true}, {ones, 3, 60, nil, true}, {ones, 3, 61, nil, false},
		{[]int{1, 0}, 3, 0, nil, false}, {[]int{1, 0}, 3, 1, nil, false}, {[]int{1, 0}, 3, 2, nil, false}, {[]int{2}, 3, 1, nil, false}, {[]int{0}, 3, 0, nil, false}, {append(slices.Clone(ones), 1), 3, 60, nil, false},
		{[]int{1}, 2, 0, nil, false}, {[]int{1}, 4, 1, nil, false}, {[]int{1}, 17, 0, nil, false}, {nil, 1, 0, nil, false}, {nil, 14, 0, nil, false}, {nil, 16, 0, nil, false},
	}
	for _, c := range cases {
		got, ok := impl.DropPlaces(c.digits, c.b, c.k)
		checkList(t, got, ok, c.want, c.ok, "DropPlaces", c.digits, c.b, c.k)
	}
}

func TestWeighingOfTable(t *testing.T) {
	cases := []struct {
		n                int
		opposite, beside []int
	}{
		{0, nil, nil}, {1, []int{1}, nil}, {2, []int{3}, []int{1}}, {3, []int{3}, nil}, {4, []int{1, 3}, nil}, {5, []int{9}, []int{1, 3}}, {6, []int{9}, []int{3}},
		{7, []int{1, 9}, []int{3}}, {8, []int{9}, []int{1}}, {13, []int{1, 3, 9}, nil}, {14, []int{27}, []int{1, 3, 9}}, {40, []int{1, 3, 9, 27}, nil},
		{847288609443, []int{847288609443}, nil}, {847288609444, []int{1, 847288609443}, nil}, {847288609442, []int{847288609443}, []int{1}},
		{-1, nil, nil}, {-2, nil, nil}, {-8, nil, nil}, {-maxNumber, nil, nil}, {-maxNumber - 1, nil, nil}, {math.MinInt64, nil, nil},
		{maxNumber + 1, nil, nil}, {2 * maxNumber, nil, nil}, {math.MaxInt64, nil, nil},
	}
	for _, c := range cases {
		opposite, beside := impl.WeighingOf(c.n)
		if !slices.Equal(opposite, c.opposite) || !slices.Equal(beside, c.beside) {
			t.Errorf("WeighingOf(%d) = %v, %v, want %v, %v", c.n, opposite, beside, c.opposite, c.beside)
		}
	}
}

func TestWeighingsAreEqual(t *testing.T) {
	power := map[int]bool{}
	for p := 1; p <= 4*maxNumber; p *= 3 {
		power[p] = true
	}
	for _, n := range someNumbers() {
		opposite, beside := impl.WeighingOf(n)
		if sumOf(opposite) != n+sumOf(beside) {
			t.Errorf("WeighingOf(%d) = %v, %v", n, opposite, beside)
		}
		both := slices.Concat(opposite, beside)
		slices.Sort(both)
		if len(slices.Compact(both)) != len(opposite)+len(beside) || !slices.IsSorted(opposite) || !slices.IsSorted(beside) {
			t.Errorf("WeighingOf(%d) = %v, %v, not ascending or not each once", n, opposite, beside)
		}
		for _, weight := range both {
			if !power[weight] {
				t.Errorf("WeighingOf(%d) = %v, %v, with %d", n, opposite, beside, weight)
			}
		}
	}
}

func TestBalancedTexts(t *testing.T) {
	ones := slices.Repeat([]int{1}, 60)
	cases := []struct {
		text   string
		digits []int
	}{
		{"0", nil}, {"+", []int{1}}, {"-", []int{-1}}, {"+0", []int{0, 1}}, {"-0", []int{0, -1}}, {"+-", []int{-1, 1}}, {"-+", []int{1, -1}}, {"++", []int{1, 1}}, {"--", []int{-1, -1}},
		{"+0-", []int{-1, 0, 1}}, {"-0+", []int{1, 0, -1}}, {"+00", []int{0, 0, 1}}, {"+-0", []int{0, -1, 1}}, {"-00+", []int{1, 0, 0, -1}},
		{strings.Repeat("+", 60), ones}, {"-" + strings.Repeat("0", 59), append(make([]int, 59), -1)}, {strings.Repeat("-", 60), slices.Repeat([]int{-1}, 60)},
		{strings.Repeat("+0", 30), slices.Repeat([]int{0, 1}, 30)},
	}
	for _, c := range cases {
		if got := impl.FormatBalanced(c.digits); got != c.text {
			t.Errorf("FormatBalanced(%v) = %q, want %q", c.digits, got, c.text)
		}
		got, ok := impl.ParseBalanced(c.text)
		checkList(t, got, ok, c.digits, true, "ParseBalanced", c.text)
	}
}

func TestFormatBalancedOfOtherLists(t *testing.T) {
	for _, list := range append(wrongBalancedLists(3), []int{2, 1}, []int{-2, 1}, []int{'+'}, []int{'0', 1}, []int{-3, 1}) {
		if got := impl.FormatBalanced(list); got != "" {
			t.Errorf("FormatBalanced(%v) = %q", list, got)
		}
	}
}

func TestBalancedTextsOfAllShortLists(t *testing.T) {
	seen := map[string]bool{}
	for _, list := range listsOver(upTo(-2, 2), 5) {
		text := impl.FormatBalanced(list)
		if impl.BalancedOk(list, 3) == (text == "") || seen[text] && text != "" {
			t.Errorf("FormatBalanced(%v) = %q", list, text)
		}
		seen[text] = true
		if text != "" {
			got, ok := impl.ParseBalanced(text)
			checkList(t, got, ok, list, true, "ParseBalanced", text)
		}
	}
}

func TestParseBalancedReadsWhatFormatBalancedWrites(t *testing.T) {
	for _, text := range textsOver([]string{"+", "0", "-", "1", " "}, 5) {
		good := text == "0" || text != "" && text[0] != '0' && strings.Trim(text, "+0-") == "" && !strings.ContainsAny(text, "1 ")
		got, ok := impl.ParseBalanced(text)
		if ok != good || !ok && len(got) != 0 || ok && impl.FormatBalanced(got) != text {
			t.Errorf("ParseBalanced(%q) = %v, %v", text, got, ok)
		}
	}
	for _, list := range longBalancedLists(3) {
		got, ok := impl.ParseBalanced(impl.FormatBalanced(list))
		checkList(t, got, ok, list, true, "ParseBalanced of", list)
	}
}

func TestParseBalancedRefusesOtherTexts(t *testing.T) {
	texts := []string{
		"", "00", "0+", "0-", "0+0-", "000", " ", " +", "+ ", "+1", "1", "1+", "T", "+\n", "\n", "0\n", "\x00", "+\x00-", "\u2212", "+\u22120", "\uff0b", "\xff", "+\xff",
		strings.Repeat("+", 61), "-" + strings.Repeat("0", 60), strings.Repeat("0", 60), strings.Repeat("0", 61), "0" + strings.Repeat("+", 59), strings.Repeat("+0-", 1000),
		strings.Repeat("+", 59) + "1", "1" + strings.Repeat("+", 59), strings.Repeat("-", 30) + "x" + strings.Repeat("-", 29),
	}
	for _, text := range texts {
		got, ok := impl.ParseBalanced(text)
		checkList(t, got, ok, nil, false, "ParseBalanced", text)
	}
}

func TestParseBalancedOfEveryByte(t *testing.T) {
	for c := range 256 {
		letter := string([]byte{byte(c)})
		d := map[string]int{"+": 1, "0": 0, "-": -1}
		digit, good := d[letter]
		for _, around := range [][2]string{{"+", ""}, {"-", "+"}, {"+", "0-"}} {
			text := around[0] + letter + around[1]
			got, ok := impl.ParseBalanced(text)
			if ok != good || !ok && len(got) != 0 || ok && (len(got) != len(text) || got[len(got)-2] != digit) {
				t.Errorf("ParseBalanced(%q) = %v, %v", text, got, ok)
			}
		}
		got, ok := impl.ParseBalanced(letter)
		if ok != good || ok && (len(got) > 1 || sumOf(got) != digit) || !ok && len(got) != 0 {
			t.Errorf("ParseBalanced(%q) = %v, %v", letter, got, ok)
		}
	}
}

// checkBalancedRefused asks every function for a and c, of which one or the base is wrong.
func checkBalancedRefused(t *testing.T, a, c []int, b int) {
	t.Helper()
	sum, ok := impl.BalancedAdd(a, c, b)
	checkList(t, sum, ok, nil, false, "BalancedAdd", a, c, b)
	if order := impl.BalancedCompare(a, c, b); order != -2 {
		t.Errorf("BalancedCompare(%v, %v, %d) = %d", a, c, b, order)
	}
}

func checkOneBalancedRefused(t *testing.T, a []int, b int) {
	t.Helper()
	if n, ok := impl.BalancedValue(a, b); n != 0 || ok {
		t.Errorf("BalancedValue(%v, %d) = %d, %v", a, b, n, ok)
	}
	for _, k := range []int{-1, 0, 1, 2, 60, 61, 1000} {
		list, ok := impl.DropPlaces(a, b, k)
		checkList(t, list, ok, nil, false, "DropPlaces", a, b, k)
	}
}

func TestBalancedDigitsOfWrongLists(t *testing.T) {
	for _, b := range balancedBases() {
		for _, wrong := range wrongBalancedLists(b) {
			for _, right := range [][]int{nil, {1}, {-1, 1}, slices.Repeat([]int{b / 2}, 60)} {
				checkBalancedRefused(t, wrong, right, b)
				checkBalancedRefused(t, right, wrong, b)
			}
			checkBalancedRefused(t, wrong, wrong, b)
			checkOneBalancedRefused(t, wrong, b)
		}
	}
}

func TestBalancedDigitsOfWrongBases(t *testing.T) {
	lists := [][]int{nil, {}, {1}, {-1}, {0, 1}, {-1, 1, 1}, {0}, {2}, slices.Repeat([]int{1}, 60)}
	for _, b := range unbalancedBases() {
		for _, a := range lists {
			for _, c := range lists {
				checkBalancedRefused(t, a, c, b)
			}
			checkOneBalancedRefused(t, a, b)
		}
	}
}

// balancedCalls are calls with two arguments in base 7 or 3 for checkMemory.
func balancedCalls() map[string]func(a, c []int) [][]int {
	return map[string]func(a, c []int) [][]int{
		"BalancedAdd":     func(a, c []int) [][]int { sum, _ := impl.BalancedAdd(a, c, 7); return [][]int{sum} },
		"BalancedCompare": func(a, c []int) [][]int { return [][]int{{impl.BalancedCompare(a, c, 7)}} },
		"NegateDigits":    func(a, c []int) [][]int { return [][]int{impl.NegateDigits(a), impl.NegateDigits(c)} },
		"BalancedValue": func(a, c []int) [][]int {
			m, _ := impl.BalancedValue(a, 7)
			n, _ := impl.BalancedValue(c, 7)
			return [][]int{{m}, {n}}
		},
		"DropPlaces": func(a, c []int) [][]int {
			results := [][]int{}
			for _, k := range []int{0, 1, 2, 3, 60} {
				one, _ := impl.DropPlaces(a, 7, k)
				other, _ := impl.DropPlaces(c, 7, k)
				results = append(results, one, other)
			}
			return results
		},
		"BalancedDigits": func(a, c []int) [][]int {
			return [][]int{impl.BalancedDigits(8+len(a), 3), impl.BalancedDigits(-8-len(c), 3), impl.BalancedDigits(0, 3)}
		},
		"WeighingOf": func(a, c []int) [][]int {
			opposite, beside := impl.WeighingOf(32 + len(a) + len(c))
			none, nothing := impl.WeighingOf(0)
			return [][]int{opposite, beside, none, nothing}
		},
		"ParseBalanced": func(a, c []int) [][]int {
			one, _ := impl.ParseBalanced("+0-"[:1+len(a)%3])
			other, _ := impl.ParseBalanced(impl.FormatBalanced(c))
			return [][]int{one, other}
		},
		"BalancedOk": func(a, c []int) [][]int {
			return [][]int{{len(impl.FormatBalanced(a))}, {map[bool]int{true: 1}[impl.BalancedOk(c, 7)]}}
		},
	}
}

func TestBalancedResultsShareNoMemory(t *testing.T) {
	pairs := [][2][]int{
		{{3, 2, 1}, {-2, 1}}, {{-3, 2, -1}, {}}, {{}, {-3, 0, 1}}, {{1}, {3, 3, 3}}, {{1, 0, -1}, {-1, 0, 1}}, {{0, 0, 0, 1}, {-1}}, {{}, {}}, {{-1, 1}, {-1, 1}},
	}
	for name, call := range balancedCalls() {
		for _, pair := range pairs {
			checkMemory(t, name, call, pair)
		}
	}
}

// One list may be both arguments of a call.
func TestBalancedArithmeticOfOneList(t *testing.T) {
	for _, b := range balancedBases() {
		for _, a := range append(longBalancedLists(b), balancedList(maxNumber, b), balancedList(-maxNumber, b)) {
			before := slices.Clone(a)
			checkBalancedPair(t, a, a, b)
			if !slices.Equal(a, before) {
				t.Errorf("%v in base %d became %v", before, b, a)
			}
		}
	}
}
