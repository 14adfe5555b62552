package tests

import (
	"math"
	"math/big"
	"slices"
	"testing"

	"loop.example/g03203/impl"
)

// maxItems repeats the document's number, so that a changed constant is noticed.
const maxItems = 8

func TestMaxItems(t *testing.T) {
	if impl.MaxItems != maxItems {
		t.Errorf("MaxItems is %d", impl.MaxItems)
	}
}

func exactFactorial(n int) int { return int(new(big.Int).MulRange(1, int64(n)).Int64()) }

// badItemCounts lists numbers that are not from 1 to MaxItems.
func badItemCounts() []int {
	return []int{math.MinInt64, math.MinInt64 + 1, -1 << 32, -9, -8, -2, -1, 0, 9, 10, 12, 13, 20, 21, 64, 66, 100, 1 << 32, 1<<32 + 1, math.MaxInt64 - 1, math.MaxInt64}
}

// allPermutations lists the permutations of m items in lexicographic order.
func allPermutations(m int) [][]int {
	all := [][]int{{}}
	for range m {
		longer := [][]int{}
		for _, list := range all {
			for n := range m {
				if !slices.Contains(list, n) {
					longer = append(longer, append(slices.Clone(list), n))
				}
			}
		}
		all = longer
	}
	return all
}

func isPermutation(list []int) bool {
	sorted := slices.Sorted(slices.Values(list))
	return len(list) >= 1 && len(list) <= maxItems && slices.Equal(sorted, upTo(0, len(list)-1))
}

// lesserBehind counts, for each item, the lesser ones after it; the count of the last item is the first.
func lesserBehind(list []int) []int {
	counts := make([]int, len(list))
	for i, x := range list {
		for _, y := range list[i+1:] {
			if y < x {
				counts[len(list)-1-i]++
			}
		}
	}
	return counts
}

// factorialNumber is also defined for lists that are no factorial digits.
func factorialNumber(digits []int) int {
	n := 0
	for k, d := range digits {
		n += d * exactFactorial(k)
	}
	return n
}

func backward(list []int) []int {
	turned := slices.Clone(list)
	slices.Reverse(turned)
	return turned
}

func TestFactorial(t *testing.T) {
	want := []int{1, 1, 2, 6, 24, 120, 720, 5040, 40320, 362880, 3628800, 39916800, 479001600}
	for n := -1000; n <= 1000; n++ {
		factorial := -1
		if n >= 0 && n <= 12 {
			factorial = want[n]
		}
		if got := impl.Factorial(n); got != factorial {
			t.Errorf("Factorial(%d) = %d, want %d", n, got, factorial)
		}
	}
	for _, n := range []int{math.MinInt64, math.MinInt64 + 1, -1 << 32, 1 << 32, 1<<32 + 5, math.MaxInt64 - 1, math.MaxInt64} {
		if got := impl.Factorial(n); got != -1 {
			t.Errorf("Factorial(%d) = %d", n, got)
		}
	}
	for n := range 13 {
		if got := impl.Factorial(n); got != exactFactorial(n) {
			t.Errorf("Factorial(%d) = %d, want %d", n, got, exactFactorial(n))
		}
	}
}

// The factorial digits of all numbers in turn are those of a counter whose wheels have 1, 2, 3 and more digits.
func TestFactorialDigitsCountUp(t *testing.T) {
	for m := 1; m <= maxItems; m++ {
		list := make([]int, m)
		for n := range exactFactorial(m) {
			if got := impl.FactorialDigits(n, m); !slices.Equal(got, list) {
				t.Errorf("FactorialDigits(%d, %d) = %v, want %v", n, m, got, list)
			}
			if got := impl.FactorialValue(list); got != n {
				t.Errorf("FactorialValue(%v) = %d, want %d", list, got, n)
			}
			countUp(list, upTo(1, m))
		}
		if sumOf(list) != 0 {
			t.Errorf("behind the last number with %d digits comes %v", m, list)
		}
	}
}

func TestFactorialDigitsTable(t *testing.T) {
	cases := []struct {
		n, m int
		want []int
	}{
		{0, 1, []int{0}}, {1, 1, nil}, {2, 1, nil}, {-1, 1, nil}, {0, 2, []int{0, 0}}, {1, 2, []int{0, 1}}, {2, 2, nil}, {3, 2, nil}, {5, 3, []int{0, 1, 2}}, {4, 3, []int{0, 0, 2}}, {6, 3, nil}, {7, 3, nil}, {-1, 3, nil},
		{6, 4, []int{0, 0, 0, 1}}, {23, 4, []int{0, 1, 2, 3}}, {24, 4, nil}, {463, 6, []int{0, 1, 0, 1, 4, 3}}, {463, 8, []int{0, 1, 0, 1, 4, 3, 0, 0}}, {463, 5, nil},
		{0, 8, make([]int, 8)}, {1, 8, []int{0, 1, 0, 0, 0, 0, 0, 0}}, {5040, 8, []int{0, 0, 0, 0, 0, 0, 0, 1}}, {5039, 8, []int{0, 1, 2, 3, 4, 5, 6, 0}}, {40318, 8, []int{0, 0, 2, 3, 4, 5, 6, 7}},
		{40319, 8, []int{0, 1, 2, 3, 4, 5, 6, 7}}, {40320, 8, nil}, {40321, 8, nil}, {-1, 8, nil}, {0, 0, nil}, {0, -1, nil}, {-1, -1, nil}, {-1, 0, nil}, {1, 0, nil}, {0, 9, nil}, {1, 9, nil}, {362879, 9, nil},
	}
	for _, c := range cases {
		if got := impl.FactorialDigits(c.n, c.m); !slices.Equal(got, c.want) {
			t.Errorf("FactorialDigits(%d, %d) = %v, want %v", c.n, c.m, got, c.want)
		}
	}
}

// checkNoneAt asks for the digits and the permutation where there are none.
func checkNoneAt(t *testing.T, n, m int) {
	t.Helper()
	if got := impl.FactorialDigits(n, m); len(got) != 0 {
		t.Errorf("FactorialDigits(%d, %d) = %v", n, m, got)
	}
	if got := impl.PermutationAt(n, m); len(got) != 0 {
		t.Errorf("PermutationAt(%d, %d) = %v", n, m, got)
	}
}

func TestNoFactorialDigits(t *testing.T) {
	for m := 1; m <= maxItems; m++ {
		size := exactFactorial(m)
		for _, n := range []int{math.MinInt64, math.MinInt64 + 1, -maxNumber, -1 << 32, -size - 1, -size, 1 - size, -2, -1, size, size + 1, 2*size - 1, 2 * size, size * (m + 1), 1 << 32, maxNumber, math.MaxInt64 - 1, math.MaxInt64} {
			if n < 0 || n >= size {
				checkNoneAt(t, n, m)
			}
		}
	}
	for _, m := range badItemCounts() {
		for _, n := range []int{math.MinInt64, -2, -1, 0, 1, 2, 5, 40319, 40320, 40321, 362879, 362880, 362881, 479001599, 479001600, maxNumber, math.MaxInt64} {
			checkNoneAt(t, n, m)
		}
	}
}

func TestFactorialValueTable(t *testing.T) {
	cases := []struct {
		digits []int
		want   int
	}{
		{nil, -1}, {[]int{}, -1}, {[]int{0}, 0}, {[]int{1}, -1}, {[]int{-1}, -1}, {[]int{0, 0}, 0}, {[]int{0, 1}, 1}, {[]int{0, 2}, -1}, {[]int{1, 0}, -1}, {[]int{1, 1}, -1}, {[]int{0, -1}, -1}, {[]int{-1, 1}, -1},
		{[]int{0, 1, 2}, 5}, {[]int{0, 1, 3}, -1}, {[]int{0, 2, 1}, -1}, {[]int{0, 0, 2}, 4}, {[]int{0, 1, 0, 1, 4, 3}, 463}, {[]int{0, 0, 0, 0, 0, 0, 0, 0}, 0}, {[]int{0, 0, 0, 0, 0, 0, 0, 7}, 35280}, {[]int{0, 0, 0, 0, 0, 0, 0, 8}, -1},
		{[]int{0, 1, 2, 3, 4, 5, 6, 7}, 40319}, {[]int{1, 1, 2, 3, 4, 5, 6, 7}, -1}, {[]int{1, 2, 3, 4, 5, 6, 7, 8}, -1}, {[]int{0, 1, 2, 3, 4, 5, 6, 7, 8}, -1}, {make([]int, 9), -1}, {make([]int, 13), -1}, {make([]int, 3000), -1},
		{[]int{math.MinInt64}, -1}, {[]int{math.MaxInt64}, -1}, {[]int{0, math.MaxInt64, 1}, -1}, {[]int{0, 1, math.MinInt64}, -1},
	}
	for _, c := range cases {
		if got := impl.FactorialValue(c.digits); got != c.want {
			t.Errorf("FactorialValue(%v) = %d, want %d", c.digits, got, c.want)
		}
	}
}

// A single digit below 0 or above its index makes a list wrong, whatever the others are.
func TestFactorialValueOfOneWrongDigit(t *testing.T) {
	for m := 1; m <= maxItems; m++ {
		for k := range m {
			for _, right := range [][]int{make([]int, m), upTo(0, m-1)} {
				for _, d := range []int{math.MinInt64, -m, -2, -1, 0, k, k + 1, k + 2, m + 1, 1 << 32, math.MaxInt64} {
					list := slices.Clone(right)
					list[k] = d
					want := -1
					if d >= 0 && d <= k {
						want = factorialNumber(list)
					}
					if got := impl.FactorialValue(list); got != want {
						t.Errorf("FactorialValue(%v) = %d, want %d", list, got, want)
					}
				}
			}
		}
	}
}

func TestFactorialValueOfAllShortLists(t *testing.T) {
	for _, list := range listsOver(upTo(-1, 5), 5) {
		want := factorialNumber(list)
		if len(list) == 0 || slices.Min(list) < 0 || slices.ContainsFunc(upTo(0, len(list)-1), func(k int) bool { return list[k] > k }) {
			want = -1
		}
		if got := impl.FactorialValue(list); got != want {
			t.Errorf("FactorialValue(%v) = %d, want %d", list, got, want)
		}
	}
}

// Without the digit with the index 0, factorial digits are mixed digits.
func TestFactorialDigitsAgreeWithMixedPlaces(t *testing.T) {
	for m := 2; m <= maxItems; m++ {
		radices := upTo(2, m)
		if impl.RangeOf(radices) != impl.Factorial(m) {
			t.Errorf("the range of %v is %d", radices, impl.RangeOf(radices))
		}
		for n := 0; n < impl.Factorial(m); n += 1 + n/500 {
			digits := impl.FactorialDigits(n, m)
			if len(digits) != m || digits[0] != 0 || !slices.Equal(digits[1:], impl.MixedDigits(n, radices)) {
				t.Errorf("FactorialDigits(%d, %d) = %v, and the mixed digits are %v", n, m, digits, impl.MixedDigits(n, radices))
			}
		}
	}
}

// checkPermutation asks every function for the permutation with this rank, and the one behind it, nil for the last one.
func checkPermutation(t *testing.T, rank int, list, next []int) {
	t.Helper()
	counts := lesserBehind(list)
	if !impl.PermutationOk(list) {
		t.Errorf("PermutationOk(%v) is false", list)
	}
	if got := impl.LehmerOf(list); !slices.Equal(got, counts) {
		t.Errorf("LehmerOf(%v) = %v, want %v", list, got, counts)
	}
	if got := impl.RankOf(list); got != rank {
		t.Errorf("RankOf(%v) = %d, want %d", list, got, rank)
	}
	if got := impl.PermutationAt(rank, len(list)); !slices.Equal(got, list) {
		t.Errorf("PermutationAt(%d, %d) = %v, want %v", rank, len(list), got, list)
	}
	got, ok := impl.NextPermutation(list)
	checkList(t, got, ok, next, next != nil, "NextPermutation", list)
	if got := impl.CountInversions(list); got != sumOf(counts) {
		t.Errorf("CountInversions(%v) = %d, want %d", list, got, sumOf(counts))
	}
}

func TestAllPermutations(t *testing.T) {
	for m := 1; m <= maxItems; m++ {
		all := allPermutations(m)
		if len(all) != exactFactorial(m) || !slices.IsSortedFunc(all, slices.Compare) {
			t.Fatalf("there are %d permutations of %d items, or they are not in order", len(all), m)
		}
		all = append(all, nil)
		for rank, list := range all[:len(all)-1] {
			checkPermutation(t, rank, list, all[rank+1])
		}
	}
}

func TestPermutationsTable(t *testing.T) {
	cases := []struct {
		list       []int
		rank       int
		lehmer     []int
		next       []int
		inversions int
	}{
		{[]int{0}, 0, []int{0}, nil, 0}, {[]int{0, 1}, 0, []int{0, 0}, []int{1, 0}, 0}, {[]int{1, 0}, 1, []int{0, 1}, nil, 1},
		{[]int{0, 1, 2}, 0, []int{0, 0, 0}, []int{0, 2, 1}, 0}, {[]int{0, 2, 1}, 1, []int{0, 1, 0}, []int{1, 0, 2}, 1}, {[]int{1, 0, 2}, 2, []int{0, 0, 1}, []int{1, 2, 0}, 1},
		{[]int{1, 2, 0}, 3, []int{0, 1, 1}, []int{2, 0, 1}, 2}, {[]int{2, 0, 1}, 4, []int{0, 0, 2}, []int{2, 1, 0}, 2}, {[]int{2, 1, 0}, 5, []int{0, 1, 2}, nil, 3},
		{[]int{0, 3, 2, 1}, 5, []int{0, 1, 2, 0}, []int{1, 0, 2, 3}, 3}, {[]int{3, 0, 1, 2}, 18, []int{0, 0, 0, 3}, []int{3, 0, 2, 1}, 3}, {[]int{3, 1, 2, 0}, 21, []int{0, 1, 1, 3}, []int{3, 2, 0, 1}, 5},
		{[]int{0, 1, 2, 3, 4, 5, 6, 7}, 0, make([]int, 8), []int{0, 1, 2, 3, 4, 5, 7, 6}, 0}, {[]int{0, 1, 2, 3, 4, 5, 7, 6}, 1, []int{0, 1, 0, 0, 0, 0, 0, 0}, []int{0, 1, 2, 3, 4, 6, 5, 7}, 1},
		{[]int{1, 0, 2, 3, 4, 5, 6, 7}, 5040, []int{0, 0, 0, 0, 0, 0, 0, 1}, []int{1, 0, 2, 3, 4, 5, 7, 6}, 1}, {[]int{7, 1, 2, 3, 4, 5, 6, 0}, 36153, []int{0, 1, 1, 1, 1, 1, 1, 7}, []int{7, 1, 2, 3, 4, 6, 0, 5}, 13},
		{[]int{0, 7, 6, 5, 4, 3, 2, 1}, 5039, []int{0, 1, 2, 3, 4, 5, 6, 0}, []int{1, 0, 2, 3, 4, 5, 6, 7}, 21}, {[]int{3, 7, 6, 5, 4, 2, 1, 0}, 20159, []int{0, 1, 2, 3, 4, 5, 6, 3}, []int{4, 0, 1, 2, 3, 5, 6, 7}, 24},
		{[]int{7, 6, 5, 4, 3, 2, 0, 1}, 40318, []int{0, 0, 2, 3, 4, 5, 6, 7}, []int{7, 6, 5, 4, 3, 2, 1, 0}, 27}, {[]int{7, 6, 5, 4, 3, 2, 1, 0}, 40319, []int{0, 1, 2, 3, 4, 5, 6, 7}, nil, 28},
	}
	for _, c := range cases {
		if !isPermutation(c.list) {
			t.Errorf("%v is no permutation", c.list)
		}
		checkPermutation(t, c.rank, c.list, c.next)
		lehmer, inversions := impl.LehmerOf(c.list), impl.CountInversions(c.list)
		if !slices.Equal(lehmer, c.lehmer) || inversions != c.inversions {
			t.Errorf("%v: %v with %d inversions, want %v with %d", c.list, lehmer, inversions, c.lehmer, c.inversions)
		}
	}
}

// The permutation in order is the first one, the one in reverse order the last one.
func TestEndsOfThePermutations(t *testing.T) {
	for m := 1; m <= maxItems; m++ {
		first, last := upTo(0, m-1), backward(upTo(0, m-1))
		if impl.RankOf(first) != 0 || impl.CountInversions(first) != 0 || sumOf(impl.LehmerOf(first)) != 0 || !slices.Equal(impl.PermutationAt(0, m), first) {
			t.Errorf("%v has the rank %d", first, impl.RankOf(first))
		}
		size := exactFactorial(m)
		if impl.RankOf(last) != size-1 || impl.CountInversions(last) != m*(m-1)/2 || !slices.Equal(impl.LehmerOf(last), first) || !slices.Equal(impl.PermutationAt(size-1, m), last) {
			t.Errorf("%v has the rank %d", last, impl.RankOf(last))
		}
		if next, ok := impl.NextPermutation(last); ok || len(next) != 0 {
			t.Errorf("behind %v comes %v, %v", last, next, ok)
		}
		checkNoneAt(t, size, m)
	}
}

// Two items that change places make an inversion of their own, and two with each item between them.
func TestInversionsOfOneExchange(t *testing.T) {
	for m := 2; m <= maxItems; m++ {
		for i := range m {
			for j := i + 1; j < m; j++ {
				list := upTo(0, m-1)
				list[i], list[j] = list[j], list[i]
				if got := impl.CountInversions(list); got != 2*(j-i)-1 {
					t.Errorf("CountInversions(%v) = %d, want %d", list, got, 2*(j-i)-1)
				}
			}
		}
	}
}

// A list and the one in reverse order have each pair as an inversion in one of them.
func TestInversionsOfReverseOrder(t *testing.T) {
	for m := 1; m <= maxItems; m++ {
		for rank := 0; rank < exactFactorial(m); rank += 1 + rank/300 {
			list := impl.PermutationAt(rank, m)
			if got := impl.CountInversions(list) + impl.CountInversions(backward(list)); got != m*(m-1)/2 {
				t.Errorf("%v and its reverse have %d inversions together", list, got)
			}
		}
	}
}

// checkNoPermutation asks every function for what is no permutation.
func checkNoPermutation(t *testing.T, list []int) {
	t.Helper()
	if impl.PermutationOk(list) {
		t.Errorf("PermutationOk(%v) is true", list)
	}
	if got := impl.LehmerOf(list); len(got) != 0 {
		t.Errorf("LehmerOf(%v) = %v", list, got)
	}
	if rank, inversions := impl.RankOf(list), impl.CountInversions(list); rank != -1 || inversions != -1 {
		t.Errorf("RankOf and CountInversions of %v are %d and %d", list, rank, inversions)
	}
	next, ok := impl.NextPermutation(list)
	checkList(t, next, ok, nil, false, "NextPermutation", list)
}

// oneChanged lists the lists that differ from this one in one item, which is one of the others for its index.
func oneChanged(list []int, others func(i int) []int) [][]int {
	lists := [][]int{}
	for i := range list {
		for _, other := range others(i) {
			changed := slices.Clone(list)
			changed[i] = other
			if other != list[i] {
				lists = append(lists, changed)
			}
		}
	}
	return lists
}

// noPermutations lists what are no permutations, most of them next to one.
func noPermutations() [][]int {
	lists := [][]int{
		nil, {}, {1}, {2}, {-1}, {math.MinInt64}, {math.MaxInt64}, {0, 0}, {1, 1}, {1, 2}, {2, 1}, {0, 2}, {-1, 0}, {0, -1}, {-1, 1}, {3, 2, 1}, {1, 2, 3}, {0, 1, 3}, {1, 1, 1}, {0, 0, 3}, {0, 2, 2, 2},
		{-1, 0, 1, 2}, {0, 1, 2, math.MinInt64}, {math.MaxInt64, 0, 1}, {1 << 32, 0}, {1 << 32, 1<<32 + 1}, {0, 1, 1 << 32}, {256, 1}, {0, 257},
		upTo(0, 8), backward(upTo(0, 8)), upTo(1, 8), upTo(1, 9), upTo(0, 9), upTo(0, 12), upTo(0, 63), upTo(0, 64), upTo(0, 2999), make([]int, 8), make([]int, 9), make([]int, 3000),
	}
	for m := 1; m <= maxItems; m++ {
		lists = append(lists, upTo(1, m), backward(upTo(1, m)), upTo(-1, m-2), slices.Repeat([]int{m - 1}, m+1), append(upTo(0, m-1), 0), append(upTo(0, m-1), m-1), append(upTo(0, m-1), -1), append(upTo(0, m-1), m+1))
		for _, right := range [][]int{upTo(0, m-1), backward(upTo(0, m-1))} {
			lists = append(lists, oneChanged(right, func(i int) []int {
				return []int{math.MinInt64, math.MinInt64 + 1, -m, -1, right[(i+1)%m], right[(i+m-1)%m], m, m + 1, maxItems, maxItems + 1, right[i] + 1<<32, math.MaxInt64 - 1, math.MaxInt64}
			})...)
		}
	}
	return lists
}

func TestNoPermutations(t *testing.T) {
	for _, list := range noPermutations() {
		if isPermutation(list) {
			t.Errorf("%v is a permutation", list)
		}
		checkNoPermutation(t, list)
	}
}

func TestPermutationsOfAllShortLists(t *testing.T) {
	lists := append(listsOver([]int{math.MinInt64, -1, 0, 1, 2, 3, 4, math.MaxInt64}, 4), listsOver(upTo(-1, 5), 5)...)
	found := map[int]int{}
	for _, list := range lists {
		if !isPermutation(list) {
			checkNoPermutation(t, list)
			continue
		}
		found[len(list)]++
		all := append(allPermutations(len(list)), nil)
		rank := slices.IndexFunc(all, func(other []int) bool { return slices.Equal(list, other) })
		next := all[rank+1]
		checkPermutation(t, rank, list, next)
	}
	if found[1] != 2 || found[4] != 48 || found[5] != 120 {
		t.Errorf("the permutations among the lists are %v", found)
	}
}

// From the first permutation on, the next ones are all the others, with growing ranks.
func TestNextPermutationGoesThroughAll(t *testing.T) {
	for m := 1; m <= maxItems; m++ {
		list, ok := impl.PermutationAt(0, m), true
		count := 0
		for ok && count <= exactFactorial(m) {
			if rank := impl.RankOf(list); rank != count {
				t.Fatalf("RankOf(%v) = %d, want %d", list, rank, count)
			}
			count++
			list, ok = impl.NextPermutation(list)
		}
		if count != exactFactorial(m) {
			t.Errorf("there are %d permutations of %d items", count, m)
		}
	}
}

// factorialCalls are calls with two lists for checkMemory.
func factorialCalls() map[string]func(a, c []int) [][]int {
	number := map[bool]int{true: 1}
	return map[string]func(a, c []int) [][]int{
		"LehmerOf": func(a, c []int) [][]int { return [][]int{impl.LehmerOf(a), impl.LehmerOf(c), impl.LehmerOf(a)} },
		"NextPermutation": func(a, c []int) [][]int {
			one, _ := impl.NextPermutation(a)
			other, _ := impl.NextPermutation(c)
			again, _ := impl.NextPermutation(a)
			return [][]int{one, other, again}
		},
		"PermutationAt": func(a, c []int) [][]int {
			return [][]int{impl.PermutationAt(len(a), 8), impl.PermutationAt(len(c), 3), impl.PermutationAt(len(a), 8), impl.PermutationAt(impl.RankOf(c), len(c))}
		},
		"FactorialDigits": func(a, c []int) [][]int {
			return [][]int{impl.FactorialDigits(len(a), 8), impl.FactorialDigits(len(c), 3), impl.FactorialDigits(len(a), 8), impl.FactorialDigits(impl.FactorialValue(c), len(c))}
		},
		"FactorialValue": func(a, c []int) [][]int { return [][]int{{impl.FactorialValue(a), impl.FactorialValue(c)}} },
		"the numbers of a permutation": func(a, c []int) [][]int {
			return [][]int{{impl.RankOf(a), impl.CountInversions(a), number[impl.PermutationOk(a)]}, {impl.RankOf(c), impl.CountInversions(c), number[impl.PermutationOk(c)]}}
		},
	}
}

func TestFactorialResultsShareNoMemory(t *testing.T) {
	pairs := [][2][]int{
		{{2, 0, 1}, {0, 1, 2}}, {{0}, {1, 0}}, {{1, 0}, {0}}, {{}, {0, 1}}, {{0, 1}, {}}, {{}, {}}, {{2, 1, 0}, {2, 1, 0}}, {{0, 3, 2, 1}, {0, 1, 2, 3}}, {{1, 1}, {0, 1}}, {{0, 1, 2, 4}, {3, 1, 0, 2}},
		{upTo(0, 7), backward(upTo(0, 7))}, {{7, 6, 5, 4, 3, 2, 0, 1}, {1, 0, 7, 2, 6, 3, 5, 4}}, {upTo(0, 8), upTo(0, 6)}, {make([]int, 8), {0, 1, 0, 1, 4, 3}},
	}
	for name, call := range factorialCalls() {
		for _, pair := range pairs {
			checkMemory(t, name, call, pair)
		}
	}
}

func TestFactorialFunctionsLeaveTheirArguments(t *testing.T) {
	lists := noPermutations()
	for m := 1; m <= 6; m++ {
		lists = append(lists, allPermutations(m)...)
	}
	for _, list := range lists {
		before := slices.Clone(list)
		impl.FactorialValue(list)
		impl.PermutationOk(list)
		impl.LehmerOf(list)
		impl.RankOf(list)
		impl.NextPermutation(list)
		impl.CountInversions(list)
		if !slices.Equal(list, before) {
			t.Errorf("%v became %v", before, list)
		}
	}
}
