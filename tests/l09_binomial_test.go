package tests

import (
	"math"
	"math/big"
	"math/bits"
	"slices"
	"testing"

	"loop.example/g03203/impl"
)

// setSize repeats the document's number: ranks, masks and next subsets are those of numbers from 0 up to 20.
const setSize = 20

func exactBinomial(n, k int) int {
	return int(new(big.Int).Binomial(int64(n), int64(k)).Int64())
}

// maskList lists the places of the bits that are set.
func maskList(mask int) []int {
	list := []int{}
	for n := range 63 {
		if mask>>n&1 == 1 {
			list = append(list, n)
		}
	}
	return list
}

// isSubset reports whether a list is a subset of the numbers from 0 up to m, for an m from 0 to 20.
func isSubset(list []int, m int) bool {
	if m < 0 || m > setSize {
		return false
	}
	sorted := slices.Compact(slices.Sorted(slices.Values(list)))
	return slices.Equal(sorted, list) && (len(list) == 0 || list[0] >= 0 && list[len(list)-1] < m)
}

// chosen lists all subsets of k numbers from 0 up to m, compared by their greatest elements, then by the next ones.
func chosen(m, k int) [][]int {
	if k == 0 {
		return [][]int{{}}
	}
	all := [][]int{}
	for greatest := range m {
		for _, list := range chosen(greatest, k-1) {
			all = append(all, append(slices.Clone(list), greatest))
		}
	}
	return all
}

// without lists the numbers from 0 up to m that a list does not contain.
func without(list []int, m int) []int {
	others := []int{}
	for n := range m {
		if !slices.Contains(list, n) {
			others = append(others, n)
		}
	}
	return others
}

// badSetSizes lists numbers that are not from 0 to 20.
func badSetSizes() []int {
	return []int{math.MinInt64, math.MinInt64 + 1, -1 << 32, -64, -21, -20, -2, -1, 21, 22, 30, 31, 32, 62, 63, 64, 65, 84, 1 << 32, 1<<32 + 5, math.MaxInt64 - 1, math.MaxInt64}
}

func TestBinomialOfAllPairs(t *testing.T) {
	numbers := append(upTo(-40, 100), math.MinInt64, math.MinInt64+1, -1<<32, -1<<32+4, 1<<32, 1<<32+4, math.MaxInt64-1, math.MaxInt64)
	for _, n := range numbers {
		for _, k := range numbers {
			want := -1
			if n >= 0 && n <= 30 && k >= 0 && k <= 30 {
				want = exactBinomial(n, k)
			}
			if got := impl.Binomial(n, k); got != want {
				t.Errorf("Binomial(%d, %d) = %d, want %d", n, k, got, want)
			}
		}
	}
}

func TestBinomialTable(t *testing.T) {
	cases := []struct{ n, k, want int }{
		{0, 0, 1}, {0, 1, 0}, {0, 30, 0}, {1, 0, 1}, {1, 1, 1}, {1, 2, 0}, {5, 2, 10}, {5, 3, 10}, {5, 4, 5}, {5, 5, 1}, {5, 6, 0}, {2, 5, 0}, {20, 8, 125970}, {20, 10, 184756}, {29, 30, 0}, {29, 29, 1}, {29, 28, 29},
		{30, 0, 1}, {30, 1, 30}, {30, 15, 155117520}, {30, 14, 145422675}, {30, 16, 145422675}, {30, 29, 30}, {30, 30, 1}, {30, 31, -1}, {31, 30, -1}, {31, 31, -1}, {31, 0, -1}, {31, 1, -1}, {0, 31, -1}, {1, 31, -1},
		{-1, 0, -1}, {0, -1, -1}, {-1, -1, -1}, {-1, 30, -1}, {30, -1, -1}, {-1, 31, -1}, {31, -1, -1}, {math.MinInt64, 0, -1}, {0, math.MinInt64, -1}, {math.MaxInt64, 0, -1}, {0, math.MaxInt64, -1}, {30, math.MaxInt64, -1},
		{math.MaxInt64, math.MaxInt64, -1}, {math.MinInt64, math.MinInt64, -1}, {math.MinInt64, math.MaxInt64, -1}, {math.MaxInt64, math.MinInt64, -1}, {math.MaxInt64, math.MaxInt64 - 1, -1},
	}
	for _, c := range cases {
		if got := impl.Binomial(c.n, c.k); got != c.want {
			t.Errorf("Binomial(%d, %d) = %d, want %d", c.n, c.k, got, c.want)
		}
	}
}

// Each coefficient is the sum of the two above it, and the row is the same backward.
func TestBinomialTriangle(t *testing.T) {
	for n := 1; n <= 30; n++ {
		for k := 1; k <= 30; k++ {
			if impl.Binomial(n, k) != impl.Binomial(n-1, k-1)+impl.Binomial(n-1, k) {
				t.Errorf("Binomial(%d, %d) = %d", n, k, impl.Binomial(n, k))
			}
			if k <= n && impl.Binomial(n, k) != impl.Binomial(n, n-k) {
				t.Errorf("Binomial(%d, %d) and Binomial(%d, %d) are different", n, k, n, n-k)
			}
		}
	}
}

// checkAsSubset asks for all sizes of the set whether a list is a subset, and for the other numbers.
func checkAsSubset(t *testing.T, list []int) {
	t.Helper()
	for _, m := range append(upTo(-1, 21), math.MinInt64, math.MaxInt64) {
		good := isSubset(list, m)
		if got := impl.SubsetOk(list, m); got != good {
			t.Errorf("SubsetOk(%v, %d) = %v", list, m, got)
		}
		want := []int{}
		if good {
			want = without(list, m)
		}
		got, ok := impl.OtherSubset(list, m)
		checkList(t, got, ok, want, good, "OtherSubset", list, m)
	}
}

// checkSubset asks every function for the subset with this rank, and the one behind it, nil for none.
func checkSubset(t *testing.T, rank int, list, next []int) {
	t.Helper()
	mask := 0
	for _, n := range list {
		mask += 1 << n
	}
	if got := impl.SubsetRank(list); got != rank {
		t.Errorf("SubsetRank(%v) = %d, want %d", list, got, rank)
	}
	if got := impl.MaskOf(list); got != mask {
		t.Errorf("MaskOf(%v) = %d, want %d", list, got, mask)
	}
	if got := impl.SubsetOf(mask); !slices.Equal(got, list) {
		t.Errorf("SubsetOf(%d) = %v, want %v", mask, got, list)
	}
	few := len(list) <= 8
	got, ok := impl.SubsetAt(rank, len(list))
	if few {
		checkList(t, got, ok, list, true, "SubsetAt", rank, len(list))
	} else {
		checkList(t, got, ok, nil, false, "SubsetAt", rank, len(list))
		next = nil
	}
	got, ok = impl.NextSubset(list)
	checkList(t, got, ok, next, next != nil, "NextSubset", list)
}

// checkNoSubset asks every function for what is no subset of the numbers from 0 up to 20.
func checkNoSubset(t *testing.T, list []int) {
	t.Helper()
	checkAsSubset(t, list)
	if rank, mask := impl.SubsetRank(list), impl.MaskOf(list); rank != -1 || mask != -1 {
		t.Errorf("SubsetRank and MaskOf of %v are %d and %d", list, rank, mask)
	}
	next, ok := impl.NextSubset(list)
	checkList(t, next, ok, nil, false, "NextSubset", list)
}

// All subsets of 12 numbers are the first ones of their sizes; behind the last of them comes the first one with the number 12.
func TestSubsetsOfFewNumbers(t *testing.T) {
	for k := range 13 {
		all := chosen(12, k)
		if len(all) != exactBinomial(12, k) {
			t.Fatalf("there are %d subsets of %d numbers", len(all), k)
		}
		first := append(upTo(0, k-2), 12)
		if k == 0 {
			first = nil
		}
		all = append(all, first)
		for rank, list := range all[:len(all)-1] {
			checkSubset(t, rank, list, all[rank+1])
			checkAsSubset(t, list)
		}
	}
}

// The masks in ascending order with as many bits are those of the subsets in the order of their ranks.
func TestSubsetsOfAllNumbers(t *testing.T) {
	counts := [setSize + 1]int{}
	sizes := [setSize + 1]int{}
	waiting := [setSize + 1][]int{}
	for k := range sizes {
		sizes[k] = exactBinomial(setSize, k)
	}
	for mask := range 1 << setSize {
		k := bits.OnesCount(uint(mask))
		if waiting[k] != nil {
			checkSubset(t, counts[k]-1, waiting[k], maskList(mask))
			waiting[k] = nil
		}
		if mask%23 == 0 || counts[k] < 3 || sizes[k]-counts[k] <= 3 {
			waiting[k] = maskList(mask)
		}
		counts[k]++
	}
	for k, list := range waiting {
		checkSubset(t, counts[k]-1, list, nil)
	}
	if counts != sizes {
		t.Errorf("the numbers of subsets are %v, want %v", counts, sizes)
	}
}

func TestSubsetsTable(t *testing.T) {
	cases := []struct {
		list       []int
		rank, mask int
		next       []int
	}{
		{nil, 0, 0, nil}, {[]int{0}, 0, 1, []int{1}}, {[]int{1}, 1, 2, []int{2}}, {[]int{18}, 18, 1 << 18, []int{19}}, {[]int{19}, 19, 1 << 19, nil},
		{[]int{0, 1}, 0, 3, []int{0, 2}}, {[]int{0, 2}, 1, 5, []int{1, 2}}, {[]int{1, 2}, 2, 6, []int{0, 3}}, {[]int{0, 3}, 3, 9, []int{1, 3}}, {[]int{1, 3}, 4, 10, []int{2, 3}}, {[]int{2, 3}, 5, 12, []int{0, 4}},
		{[]int{17, 19}, 188, 1<<17 + 1<<19, []int{18, 19}}, {[]int{18, 19}, 189, 1<<18 + 1<<19, nil}, {[]int{17, 18}, 170, 1<<17 + 1<<18, []int{0, 19}}, {[]int{0, 1, 2}, 0, 7, []int{0, 1, 3}}, {[]int{1, 2, 3}, 3, 14, []int{0, 1, 4}},
		{[]int{2, 3, 7}, 40, 140, []int{0, 4, 7}}, {[]int{4, 5, 6, 11}, 364, 2160, []int{0, 1, 7, 11}}, {[]int{0, 5, 6, 11}, 360, 2145, []int{1, 5, 6, 11}}, {[]int{17, 18, 19}, 1139, 7 << 17, nil},
		{upTo(0, 7), 0, 255, []int{0, 1, 2, 3, 4, 5, 6, 8}}, {upTo(1, 8), 8, 510, []int{0, 1, 2, 3, 4, 5, 6, 9}}, {[]int{0, 2, 4, 6, 8, 10, 12, 14}, 4081, 21845, []int{1, 2, 4, 6, 8, 10, 12, 14}},
		{upTo(12, 19), 125969, 255 << 12, nil}, {append([]int{11}, upTo(13, 19)...), 125968, 127<<13 + 1<<11, upTo(12, 19)}, {upTo(11, 18), 75581, 255 << 11, []int{0, 1, 2, 3, 4, 5, 6, 19}},
		{upTo(0, 8), 0, 511, nil}, {upTo(1, 9), 9, 1022, nil}, {upTo(11, 19), 167959, 511 << 11, nil}, {[]int{0, 1, 2, 3, 4, 5, 6, 7, 9}, 1, 767, nil}, {upTo(0, 9), 0, 1023, nil}, {upTo(10, 19), 184755, 1023 << 10, nil},
		{upTo(0, 18), 0, 1<<19 - 1, nil}, {upTo(1, 19), 19, 1<<20 - 2, nil}, {upTo(0, 19), 0, 1<<20 - 1, nil},
	}
	for _, c := range cases {
		checkSubset(t, c.rank, c.list, c.next)
		checkAsSubset(t, c.list)
		if got := impl.MaskOf(c.list); got != c.mask {
			t.Errorf("MaskOf(%v) = %d, want %d", c.list, got, c.mask)
		}
	}
}

func TestSubsetOkTable(t *testing.T) {
	cases := []struct {
		list []int
		m    int
		want bool
	}{
		{nil, -1, false}, {nil, 0, true}, {nil, 1, true}, {nil, 20, true}, {nil, 21, false}, {[]int{}, 0, true}, {[]int{0}, -1, false}, {[]int{0}, 0, false}, {[]int{-1}, 0, false}, {[]int{0}, 1, true}, {[]int{1}, 1, false}, {[]int{-1}, 1, false},
		{[]int{0, 1}, 1, false}, {[]int{0, 0}, 1, false}, {[]int{0, 1}, 2, true}, {[]int{1, 0}, 2, false}, {[]int{1, 1}, 2, false}, {[]int{0, 2}, 2, false}, {[]int{1, 3}, 5, true}, {[]int{3, 1}, 5, false}, {[]int{5}, 5, false}, {[]int{4}, 5, true},
		{[]int{1, 2, 2}, 5, false}, {[]int{1, 1, 2}, 5, false}, {[]int{0, 2, 1, 3}, 5, false}, {[]int{1, 2, 0}, 5, false}, {[]int{19}, 20, true}, {[]int{20}, 20, false}, {[]int{20}, 21, false}, {[]int{0}, 21, false}, {[]int{-1, 0}, 20, false},
		{upTo(0, 19), 20, true}, {upTo(0, 20), 20, false}, {upTo(1, 20), 20, false}, {upTo(-1, 18), 20, false}, {upTo(0, 19), 19, false}, {upTo(0, 18), 19, true}, {upTo(0, 20), 21, false}, {backward(upTo(0, 19)), 20, false},
		{[]int{math.MinInt64}, 20, false}, {[]int{math.MaxInt64}, 20, false}, {[]int{math.MinInt64, 0}, 20, false}, {[]int{0, math.MaxInt64}, 20, false}, {[]int{0, math.MinInt64}, 20, false}, {[]int{math.MaxInt64, 0}, 20, false},
		{nil, math.MinInt64, false}, {nil, math.MaxInt64, false}, {[]int{0}, math.MaxInt64, false}, {[]int{math.MinInt64}, math.MinInt64, false}, {[]int{math.MaxInt64 - 1}, math.MaxInt64, false}, {make([]int, 3000), 20, false}, {upTo(0, 2999), 20, false},
	}
	for _, c := range cases {
		if isSubset(c.list, c.m) != c.want {
			t.Errorf("the test takes %v for a subset of %d numbers, or not", c.list, c.m)
		}
		if got := impl.SubsetOk(c.list, c.m); got != c.want {
			t.Errorf("SubsetOk(%v, %d) = %v", c.list, c.m, got)
		}
	}
	for _, m := range badSetSizes() {
		for _, list := range [][]int{nil, {0}, {0, 1}, {1, 3}, {-1}, {20}, upTo(0, 19), upTo(0, 20)} {
			if impl.SubsetOk(list, m) {
				t.Errorf("SubsetOk(%v, %d) is true", list, m)
			}
			other, ok := impl.OtherSubset(list, m)
			checkList(t, other, ok, nil, false, "OtherSubset", list, m)
		}
	}
}

// noSubsets lists what are no subsets of the numbers from 0 up to 20, most of them next to one.
func noSubsets() [][]int {
	lists := [][]int{
		{-1}, {20}, {21}, {63}, {64}, {math.MinInt64}, {math.MaxInt64}, {0, 0}, {1, 1}, {1, 0}, {19, 19}, {19, 18}, {-1, 0}, {0, -1}, {0, 20}, {19, 20}, {-1, 19}, {-2, -1}, {20, 21}, {0, 1 << 32}, {1 << 32, 1<<32 + 1}, {-1 << 32, 0},
		{math.MinInt64, 0}, {0, math.MinInt64}, {math.MaxInt64, 0}, {0, math.MaxInt64}, {math.MinInt64, math.MaxInt64}, {0, 1, 1}, {0, 0, 1}, {1, 2, 0}, {2, 0, 1}, {0, 2, 1}, {2, 1, 0}, upTo(0, 20), upTo(1, 20), upTo(-1, 19), upTo(0, 63), upTo(0, 64),
		backward(upTo(0, 19)), backward(upTo(0, 7)), make([]int, 20), make([]int, 21), make([]int, 3000), upTo(0, 2999),
	}
	for _, right := range [][]int{{5}, {0, 19}, {3, 4, 5}, {2, 5, 9, 14}, upTo(0, 7), upTo(12, 19), upTo(0, 8), upTo(4, 18), upTo(0, 19)} {
		last := len(right) - 1
		lists = append(lists, oneChanged(right, func(i int) []int {
			return []int{math.MinInt64, math.MinInt64 + 1, -20, -1, right[max(i-1, 0)], right[min(i+1, last)], right[0], right[last], 20, 21, 64, right[i] + 1<<32, math.MaxInt64 - 1, math.MaxInt64}
		})...)
	}
	return lists
}

func TestNoSubsets(t *testing.T) {
	for _, list := range noSubsets() {
		if isSubset(list, setSize) {
			t.Errorf("%v is a subset", list)
		}
		checkNoSubset(t, list)
	}
}

func TestSubsetsOfAllShortLists(t *testing.T) {
	lists := append(listsOver([]int{math.MinInt64, -1, 0, 1, 18, 19, 20, math.MaxInt64}, 4), listsOver(upTo(-1, 5), 5)...)
	for _, list := range lists {
		checkAsSubset(t, list)
		if !isSubset(list, setSize) {
			checkNoSubset(t, list)
			continue
		}
		rank := 0
		for i, n := range list {
			rank += exactBinomial(n, i+1)
		}
		if got := impl.SubsetRank(list); got != rank {
			t.Errorf("SubsetRank(%v) = %d, want %d", list, got, rank)
		}
		got, ok := impl.SubsetAt(rank, len(list))
		checkList(t, got, ok, list, true, "SubsetAt", rank, len(list))
	}
}

func TestSubsetAtTable(t *testing.T) {
	cases := []struct {
		n, k int
		want []int
		good bool
	}{
		{0, -1, nil, false}, {-1, -1, nil, false}, {1, -1, nil, false}, {-1, 0, nil, false}, {0, 0, nil, true}, {1, 0, nil, false}, {2, 0, nil, false}, {-1, 1, nil, false}, {0, 1, []int{0}, true}, {19, 1, []int{19}, true}, {20, 1, nil, false},
		{0, 2, []int{0, 1}, true}, {4, 2, []int{1, 3}, true}, {189, 2, []int{18, 19}, true}, {190, 2, nil, false}, {191, 2, nil, false}, {1139, 3, []int{17, 18, 19}, true}, {1140, 3, nil, false}, {4844, 4, upTo(16, 19), true}, {4845, 4, nil, false},
		{-1, 8, nil, false}, {0, 8, upTo(0, 7), true}, {8, 8, upTo(1, 8), true}, {125969, 8, upTo(12, 19), true}, {125970, 8, nil, false}, {125971, 8, nil, false}, {0, 9, nil, false}, {-1, 9, nil, false}, {1, 9, nil, false}, {167959, 9, nil, false},
		{167960, 9, nil, false}, {0, 20, nil, false}, {0, 21, nil, false}, {0, 30, nil, false}, {0, 31, nil, false}, {-1, 31, nil, false}, {0, math.MinInt64, nil, false}, {0, math.MaxInt64, nil, false}, {math.MinInt64, 2, nil, false}, {math.MaxInt64, 2, nil, false},
		{math.MinInt64, math.MinInt64, nil, false}, {math.MaxInt64, math.MaxInt64, nil, false}, {math.MaxInt64, 0, nil, false}, {math.MinInt64, 0, nil, false}, {1 << 32, 8, nil, false}, {0, 1<<32 + 2, nil, false}, {math.MinInt64, -1, nil, false},
	}
	for _, c := range cases {
		got, ok := impl.SubsetAt(c.n, c.k)
		checkList(t, got, ok, c.want, c.good, "SubsetAt", c.n, c.k)
	}
}

func TestNoSubsetAt(t *testing.T) {
	for k := range 9 {
		size := exactBinomial(setSize, k)
		for _, n := range []int{math.MinInt64, math.MinInt64 + 1, -1 << 32, -size, -2, -1, size, size + 1, 2 * size, exactBinomial(setSize+1, k), 1 << 20, 1 << 32, math.MaxInt64 - 1, math.MaxInt64} {
			if n >= 0 && n < size {
				continue
			}
			got, ok := impl.SubsetAt(n, k)
			checkList(t, got, ok, nil, false, "SubsetAt", n, k)
		}
	}
	for _, k := range append(badSetSizes(), upTo(9, 20)...) {
		for _, n := range []int{math.MinInt64, -1, 0, 1, 19, 20, 167959, 184755, 1 << 20, math.MaxInt64} {
			got, ok := impl.SubsetAt(n, k)
			checkList(t, got, ok, nil, false, "SubsetAt", n, k)
		}
	}
}

func TestMaskOfAllFewBits(t *testing.T) {
	for mask := range 1 << 13 {
		list := maskList(mask)
		if got := impl.SubsetOf(mask); !slices.Equal(got, list) {
			t.Errorf("SubsetOf(%d) = %v, want %v", mask, got, list)
		}
		if got := impl.MaskOf(list); got != mask {
			t.Errorf("MaskOf(%v) = %d, want %d", list, got, mask)
		}
	}
}

func TestSubsetOfMasksAtTheEnds(t *testing.T) {
	cases := []struct {
		mask int
		want []int
	}{
		{-1, nil}, {-2, nil}, {0, nil}, {1, []int{0}}, {2, []int{1}}, {3, []int{0, 1}}, {10, []int{1, 3}}, {1 << 18, []int{18}}, {1<<19 - 1, upTo(0, 18)}, {1 << 19, []int{19}}, {1<<19 + 1, []int{0, 19}}, {1<<20 - 2, upTo(1, 19)}, {1<<20 - 1, upTo(0, 19)},
		{1 << 20, nil}, {1<<20 + 1, nil}, {1<<21 - 1, nil}, {1 << 21, nil}, {1 << 32, nil}, {1<<32 + 1, nil}, {1 << 62, nil}, {math.MaxInt64, nil}, {math.MaxInt64 - 1, nil}, {math.MinInt64, nil}, {math.MinInt64 + 1, nil}, {-1 << 20, nil}, {-1 << 32, nil},
	}
	for _, c := range cases {
		if got := impl.SubsetOf(c.mask); !slices.Equal(got, c.want) {
			t.Errorf("SubsetOf(%d) = %v, want %v", c.mask, got, c.want)
		}
	}
	for _, mask := range edgeInts() {
		want := []int{}
		if mask >= 0 && mask < 1<<20 {
			want = maskList(mask)
		}
		if got := impl.SubsetOf(mask); !slices.Equal(got, want) {
			t.Errorf("SubsetOf(%d) = %v, want %v", mask, got, want)
		}
	}
}

func TestOtherSubsetTable(t *testing.T) {
	cases := []struct {
		list []int
		m    int
		want []int
		good bool
	}{
		{nil, 0, nil, true}, {nil, 1, []int{0}, true}, {nil, 20, upTo(0, 19), true}, {nil, -1, nil, false}, {nil, 21, nil, false}, {[]int{0}, 0, nil, false}, {[]int{0}, 1, nil, true}, {[]int{0}, 2, []int{1}, true}, {[]int{1}, 2, []int{0}, true},
		{[]int{1, 3}, 5, []int{0, 2, 4}, true}, {[]int{0, 2, 4}, 5, []int{1, 3}, true}, {[]int{3, 1}, 5, nil, false}, {[]int{1, 1}, 5, nil, false}, {[]int{5}, 5, nil, false}, {[]int{-1}, 5, nil, false}, {upTo(0, 4), 5, nil, true}, {upTo(0, 5), 5, nil, false},
		{[]int{0, 2, 4, 6, 8, 10, 12, 14, 16, 18}, 20, []int{1, 3, 5, 7, 9, 11, 13, 15, 17, 19}, true}, {[]int{1, 3, 5, 7, 9, 11, 13, 15, 17, 19}, 20, []int{0, 2, 4, 6, 8, 10, 12, 14, 16, 18}, true}, {upTo(0, 19), 20, nil, true}, {upTo(0, 18), 20, []int{19}, true},
		{upTo(1, 19), 20, []int{0}, true}, {upTo(0, 20), 20, nil, false}, {upTo(0, 20), 21, nil, false}, {[]int{19}, 20, upTo(0, 18), true}, {[]int{19}, 19, nil, false}, {[]int{0}, 20, upTo(1, 19), true}, {[]int{0}, math.MaxInt64, nil, false}, {nil, math.MinInt64, nil, false},
	}
	for _, c := range cases {
		got, ok := impl.OtherSubset(c.list, c.m)
		checkList(t, got, ok, c.want, c.good, "OtherSubset", c.list, c.m)
	}
}

// The other subset of the other subset is the first one, and both together have all the numbers.
func TestOtherSubsetTwice(t *testing.T) {
	for m := range setSize + 1 {
		for mask := 0; mask < 1<<m; mask += 1 + mask/400 {
			list := impl.SubsetOf(mask)
			other, ok := impl.OtherSubset(list, m)
			if !ok || impl.MaskOf(other) != 1<<m-1-mask {
				t.Errorf("OtherSubset(%v, %d) = %v, %v", list, m, other, ok)
			}
			back, ok := impl.OtherSubset(other, m)
			checkList(t, back, ok, list, true, "OtherSubset", other, m)
		}
	}
}

// From the first subset on, the next ones are all the others, with growing ranks.
func TestNextSubsetGoesThroughAll(t *testing.T) {
	for k := range 6 {
		list, ok := impl.SubsetAt(0, k)
		count := 0
		for ok && count <= exactBinomial(setSize, k) {
			if rank := impl.SubsetRank(list); rank != count {
				t.Fatalf("SubsetRank(%v) = %d, want %d", list, rank, count)
			}
			count++
			list, ok = impl.NextSubset(list)
		}
		if count != exactBinomial(setSize, k) {
			t.Errorf("there are %d subsets of %d numbers", count, k)
		}
	}
}

// subsetCalls are calls with two lists for checkMemory.
func subsetCalls() map[string]func(a, c []int) [][]int {
	number := map[bool]int{true: 1}
	return map[string]func(a, c []int) [][]int{
		"NextSubset": func(a, c []int) [][]int {
			one, _ := impl.NextSubset(a)
			other, _ := impl.NextSubset(c)
			again, _ := impl.NextSubset(a)
			return [][]int{one, other, again}
		},
		"OtherSubset": func(a, c []int) [][]int {
			one, _ := impl.OtherSubset(a, 20)
			other, _ := impl.OtherSubset(c, 12)
			again, _ := impl.OtherSubset(a, 20)
			return [][]int{one, other, again}
		},
		"SubsetAt": func(a, c []int) [][]int {
			one, _ := impl.SubsetAt(impl.SubsetRank(a), len(a))
			other, _ := impl.SubsetAt(impl.SubsetRank(c), len(c))
			again, _ := impl.SubsetAt(impl.SubsetRank(a), len(a))
			return [][]int{one, other, again}
		},
		"SubsetOf": func(a, c []int) [][]int {
			return [][]int{impl.SubsetOf(impl.MaskOf(a)), impl.SubsetOf(impl.MaskOf(c)), impl.SubsetOf(impl.MaskOf(a))}
		},
		"the numbers of a subset": func(a, c []int) [][]int {
			return [][]int{{impl.SubsetRank(a), impl.MaskOf(a), number[impl.SubsetOk(a, 12)]}, {impl.SubsetRank(c), impl.MaskOf(c), number[impl.SubsetOk(c, 20)]}}
		},
	}
}

func TestSubsetResultsShareNoMemory(t *testing.T) {
	pairs := [][2][]int{
		{{0, 1, 3}, {1, 2}}, {{}, {0}}, {{0}, {}}, {{}, {}}, {{19}, {18, 19}}, {{1, 3}, {1, 3}}, {{3, 1}, {1, 3}}, {{1, 1}, {0, 20}}, {upTo(0, 7), upTo(12, 19)}, {upTo(0, 8), upTo(0, 11)}, {upTo(0, 19), upTo(0, 18)}, {{0, 2, 4, 6, 8, 10}, {1, 3, 5, 7, 9, 11}},
	}
	for name, call := range subsetCalls() {
		for _, pair := range pairs {
			checkMemory(t, name, call, pair)
		}
	}
}

func TestSubsetFunctionsLeaveTheirArguments(t *testing.T) {
	lists := noSubsets()
	for mask := range 1 << 9 {
		lists = append(lists, maskList(mask))
	}
	for _, list := range lists {
		before := slices.Clone(list)
		impl.SubsetRank(list)
		impl.MaskOf(list)
		impl.NextSubset(list)
		for _, m := range []int{-1, 0, 5, 19, 20, 21} {
			impl.SubsetOk(list, m)
			impl.OtherSubset(list, m)
		}
		if !slices.Equal(list, before) {
			t.Errorf("%v became %v", before, list)
		}
	}
}

// The calls of many goroutines at the same time answer like calls one after the other.
func TestSubsetsAtTheSameTime(t *testing.T) {
	answers := make(chan bool)
	for k := 1; k <= 8; k++ {
		go func() {
			good := true
			for n := range 300 {
				list, ok := impl.SubsetAt(n, k)
				good = good && ok && impl.SubsetRank(list) == n && len(list) == k
				if exactBinomial(setSize, k) == n+1 {
					break
				}
			}
			answers <- good
		}()
	}
	for range 8 {
		if !<-answers {
			t.Error("a subset is different from that with its rank")
		}
	}
}
