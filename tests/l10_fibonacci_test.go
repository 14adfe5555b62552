package tests

import (
	"math"
	"math/big"
	"slices"
	"strings"
	"testing"

	"loop.example/g03203/impl"
)

// halfNumber is the greatest number with sparse and dense digits, countedNumber that whose lists are counted, shiftedNumber that which is shifted.
const halfNumber = maxNumber / 2
const countedNumber = 100000
const shiftedNumber = 100000000
const pairCount = 1000000

// exactFib adds up a diagonal of the triangle of binomial coefficients, which is a place.
func exactFib(k int) int {
	sum := 0
	for i := 0; i <= k+1-i; i++ {
		sum += exactBinomial(k+1-i, i)
	}
	return sum
}

// fibPlaces are the places with the indices from 0 to 60.
var fibPlaces = func() [61]int {
	places := [61]int{}
	for k := range places {
		places[k] = exactFib(k)
	}
	return places
}()

// fibNumber adds the places of any list of up to 61 digits of 0 and 1.
func fibNumber(digits []int) int {
	sum := 0
	for k, d := range digits {
		if d == 1 {
			sum += fibPlaces[k]
		}
	}
	return sum
}

func isFibList(list []int) bool {
	for _, d := range list {
		if d != 0 && d != 1 {
			return false
		}
	}
	return len(list) == 0 || len(list) <= 58 && list[len(list)-1] == 1
}

// hasTwo reports whether the text of digits has a digit twice in a row.
func hasTwo(list []int, digit string) bool {
	text := []byte{}
	for _, d := range list {
		text = append(text, "01"[d])
	}
	return strings.Contains(string(text), digit+digit)
}

func withoutLast0(list []int) []int {
	for len(list) > 0 && list[len(list)-1] == 0 {
		list = list[:len(list)-1]
	}
	return slices.Clip(list)
}

// fibList takes places from the greatest one on: for dense digits, those without which the lesser ones are too few, or else all that fit.
func fibList(n int, dense bool) []int {
	list := make([]int, len(fibPlaces))
	for k := len(fibPlaces) - 1; k >= 0; k-- {
		lesser := 0
		for _, place := range fibPlaces[:k] {
			lesser += place
		}
		if dense && n > lesser || !dense && n >= fibPlaces[k] {
			list[k] = 1
			n -= fibPlaces[k]
		}
	}
	return withoutLast0(list)
}

func sparseFibList(n int) []int { return fibList(n, false) }
func denseFibList(n int) []int  { return fibList(n, true) }

// rewrittenFib lists a sparse list and what it becomes when a 1 behind two 0 gives up its place for those before it, again and again.
func rewrittenFib(sparse []int) [][]int {
	lists := [][]int{sparse}
	for changed := true; changed; {
		changed = false
		list := slices.Clone(lists[len(lists)-1])
		for k := 2; k < len(list) && !changed; k++ {
			if list[k] == 1 && list[k-1] == 0 && list[k-2] == 0 {
				list[k], list[k-1], list[k-2] = 0, 1, 1
				changed = true
			}
		}
		if changed {
			lists = append(lists, withoutLast0(list))
		}
	}
	return lists
}

// fibNumbers lists numbers with sparse and dense digits: small ones, those beside every place, beside all lesser places together, and beside half of MaxNumber.
func fibNumbers() []int {
	numbers := append(upTo(0, 3000), upTo(halfNumber-300, halfNumber)...)
	for _, place := range fibPlaces[:57] {
		for _, n := range []int{place - 3, place - 2, place - 1, place, place + 1, place + 2, place + place/2, 2*place - 1, 2 * place} {
			if n >= 0 && n <= halfNumber {
				numbers = append(numbers, n)
			}
		}
	}
	for _, n := range someNumbers() {
		numbers = append(numbers, n/2)
	}
	slices.Sort(numbers)
	return slices.Compact(numbers)
}

// noFibNumbers lists numbers without sparse and dense digits.
func noFibNumbers() []int {
	return []int{
		math.MinInt64, math.MinInt64 + 1, -1 << 40, -1 << 32, -1<<32 + 5, -maxNumber, -halfNumber - 1, -halfNumber, 1 - halfNumber, -89, -8, -3, -2, -1,
		halfNumber + 1, halfNumber + 2, fibPlaces[56] - 3, fibPlaces[56] - 2, fibPlaces[56] - 1, fibPlaces[56], fibPlaces[57], maxNumber - 1, maxNumber, maxNumber + 1, fibPlaces[58], fibPlaces[59], 1 << 40, 1 << 62, math.MaxInt64 - 1, math.MaxInt64,
	}
}

// longFibLists lists Fibonacci digits of many lengths, up to 58.
func longFibLists() [][]int {
	lists := [][]int{nil, {}}
	patterns := [][]int{{1}, {1, 0}, {1, 0, 0}, {1, 1, 0}, {1, 0, 0, 0}, {1, 1, 1, 0}, {1, 0, 1, 1}, {1, 1, 0, 0}, {1, 0, 1, 0, 0}, {1, 1, 0, 1, 0}}
	state := 4711
	for count := 1; count <= 58; count++ {
		for _, pattern := range patterns {
			list := make([]int, count)
			for k := range list {
				list[count-1-k] = pattern[k%len(pattern)]
			}
			lists = append(lists, list)
		}
		lists = append(lists, append(make([]int, count-1), 1))
		for range 20 {
			list := make([]int, count)
			for k := range list {
				state = (state*1103515245 + 12345) % 2147483648
				list[k] = state / 65536 % 2
			}
			list[count-1] = 1
			lists = append(lists, list)
		}
	}
	return lists
}

// noFibLists lists what is no Fibonacci digits.
func noFibLists() [][]int {
	lists := [][]int{
		{0}, {0, 0}, {1, 0}, {1, 1, 0}, {0, 1, 0}, {1, 0, 0}, {-1}, {2}, {3}, {0, 2}, {2, 1}, {1, 2}, {0, -1}, {-1, 1}, {1, -1}, {1, 0, -1}, {1, 0, 2}, {2, 0, 1}, {-1, 0, 1}, {1, 2, 1}, {1, -1, 1}, {0, 0, 2}, {1, 3, 1}, {1 << 32, 1}, {1<<32 + 1},
		{math.MinInt64}, {math.MaxInt64}, {math.MinInt64, 1}, {math.MaxInt64, 1}, {1, math.MinInt64}, {1, math.MaxInt64}, {math.MaxInt64, math.MaxInt64, math.MaxInt64}, make([]int, 58), make([]int, 59), make([]int, 60), make([]int, 3000),
	}
	for _, count := range []int{59, 60, 61, 64, 100, 3000} {
		lists = append(lists, append(make([]int, count-1), 1), slices.Repeat([]int{1}, count), slices.Repeat([]int{0, 1}, count)[count:], slices.Repeat([]int{1, 0}, count)[:count])
	}
	for _, right := range [][]int{{1}, {0, 1}, {1, 1}, {1, 0, 1}, {0, 1, 1, 0, 1}, append(make([]int, 57), 1), slices.Repeat([]int{0, 1}, 29), slices.Repeat([]int{1}, 58)} {
		lists = append(lists, oneChanged(right, func(i int) []int { return []int{-1, 2, 10, 1 << 32, math.MinInt64, math.MaxInt64} })...)
		zeros := append(slices.Clone(right), 0)
		lists = append(lists, zeros, append(slices.Clone(zeros), 0))
	}
	return lists
}

func TestFibPlace(t *testing.T) {
	first := []int{1, 2, 3, 5, 8, 13, 21, 34, 55, 89, 144}
	for k := -200; k <= 300; k++ {
		want := 0
		switch {
		case k >= 0 && k < len(first):
			want = first[k]
		case k >= 0 && k <= 58:
			want = fibPlaces[k]
		}
		if got := impl.FibPlace(k); got != want {
			t.Errorf("FibPlace(%d) = %d, want %d", k, got, want)
		}
		if k >= 2 && k <= 58 && impl.FibPlace(k) != impl.FibPlace(k-1)+impl.FibPlace(k-2) {
			t.Errorf("FibPlace(%d) is not the sum of the two before", k)
		}
	}
	cases := [][2]int{{24, 121393}, {55, 365435296162}, {56, 591286729879}, {57, 956722026041}, {58, 1548008755920}}
	for _, c := range cases {
		if got := impl.FibPlace(c[0]); got != c[1] {
			t.Errorf("FibPlace(%d) = %d, want %d", c[0], got, c[1])
		}
	}
	for _, k := range []int{math.MinInt64, math.MinInt64 + 1, -1 << 32, -1<<32 + 4, 1 << 32, 1<<32 + 4, maxNumber, math.MaxInt64 - 1, math.MaxInt64} {
		if got := impl.FibPlace(k); got != 0 {
			t.Errorf("FibPlace(%d) = %d", k, got)
		}
	}
}

// checkFibList asks every function that takes digits for a list.
func checkFibList(t *testing.T, list []int) {
	t.Helper()
	good := isFibList(list)
	if got := impl.FibOk(list); got != good {
		t.Errorf("FibOk(%v) = %v", list, got)
	}
	number, fits, sparse, dense := 0, false, false, false
	if good {
		number = fibNumber(list)
		fits = number <= maxNumber
		sparse, dense = !hasTwo(list, "1"), !hasTwo(list, "0")
	}
	if !fits {
		number = 0
	}
	if got, ok := impl.FibValue(list); got != number || ok != fits {
		t.Errorf("FibValue(%v) = %d, %v, want %d, %v", list, got, ok, number, fits)
	}
	if got := impl.IsSparseFib(list); got != sparse {
		t.Errorf("IsSparseFib(%v) = %v", list, got)
	}
	if got := impl.IsDenseFib(list); got != dense {
		t.Errorf("IsDenseFib(%v) = %v", list, got)
	}
}

func TestFibListsOfAllShortLengths(t *testing.T) {
	for _, list := range append(listsOver([]int{-1, 0, 1, 2}, 7), listsOver([]int{0, 1}, 12)...) {
		checkFibList(t, list)
	}
}

func TestLongFibLists(t *testing.T) {
	for _, list := range longFibLists() {
		if !isFibList(list) {
			t.Errorf("%v is no list of the test", list)
		}
		checkFibList(t, list)
	}
	for _, list := range noFibLists() {
		if isFibList(list) {
			t.Errorf("%v is a list", list)
		}
		checkFibList(t, list)
	}
}

// Two equal digits side by side are found at every place, and a digit of 2 or -1 is, too.
func TestOnePairOfFibDigits(t *testing.T) {
	sparse, dense := slices.Repeat([]int{0, 1}, 29), slices.Repeat([]int{1, 0, 1}, 20)[:58]
	for k := range 57 {
		for _, base := range [][]int{sparse, dense, slices.Repeat([]int{1}, 58), append(make([]int, 57), 1)} {
			for _, pair := range [][2]int{{0, 0}, {0, 1}, {1, 0}, {1, 1}, {0, 2}, {2, 1}, {1, -1}, {2, 2}, {-1, -1}} {
				list := slices.Clone(base)
				list[k], list[k+1] = pair[0], pair[1]
				checkFibList(t, list)
				checkFibList(t, append(list[:k:k], 0, pair[1], 1))
			}
		}
	}
}

func TestFibListsTable(t *testing.T) {
	zeros := make([]int, 60)
	cases := []struct {
		digits        []int
		n             int
		fits          bool
		ok            bool
		sparse, dense bool
	}{
		{nil, 0, true, true, true, true}, {[]int{}, 0, true, true, true, true}, {[]int{0}, 0, false, false, false, false}, {[]int{1}, 1, true, true, true, true}, {[]int{-1}, 0, false, false, false, false}, {[]int{2}, 0, false, false, false, false},
		{[]int{0, 1}, 2, true, true, true, true}, {[]int{1, 1}, 3, true, true, false, true}, {[]int{0, 0, 1}, 3, true, true, true, false}, {[]int{1, 0, 1}, 4, true, true, true, true}, {[]int{0, 1, 0, 1}, 7, true, true, true, true},
		{[]int{1, 1, 1}, 6, true, true, false, true}, {[]int{1, 0, 0, 1}, 6, true, true, true, false}, {[]int{1, 1, 0, 0, 1}, 11, true, true, false, false}, {[]int{0, 0, 1, 1}, 8, true, true, false, false}, {[]int{0, 1, 1, 0, 1, 0, 1}, 34, true, true, false, true},
		{[]int{1, 0}, 0, false, false, false, false}, {[]int{0, 0}, 0, false, false, false, false}, {[]int{1, 2, 1}, 0, false, false, false, false}, {[]int{1, -1, 1}, 0, false, false, false, false},
		{append(slices.Clone(zeros[:56]), 1), 591286729879, true, true, true, false}, {append(slices.Clone(zeros[:57]), 1), 956722026041, true, true, true, false}, {append(slices.Clone(zeros[:58]), 1), 0, false, false, false, false},
		{slices.Repeat([]int{1}, 56), 956722026039, true, true, false, true}, {slices.Repeat([]int{1}, 57), 0, false, true, false, true}, {slices.Repeat([]int{1}, 58), 0, false, true, false, true}, {slices.Repeat([]int{1}, 59), 0, false, false, false, false},
		{slices.Repeat([]int{0, 1}, 28), 591286729878, true, true, true, true}, {slices.Repeat([]int{0, 1}, 29), 0, false, true, true, true}, {slices.Repeat([]int{0, 1}, 30)[1:], 0, false, false, false, false}, {append(slices.Clone(zeros[:56]), 1, 1), 0, false, true, false, false},
	}
	for _, c := range cases {
		n, fits := impl.FibValue(c.digits)
		if ok := impl.FibOk(c.digits); n != c.n || fits != c.fits || ok != c.ok {
			t.Errorf("FibValue(%v) = %d, %v, and FibOk is %v", c.digits, n, fits, ok)
		}
		if sparse, dense := impl.IsSparseFib(c.digits), impl.IsDenseFib(c.digits); sparse != c.sparse || dense != c.dense {
			t.Errorf("%v is sparse: %v, dense: %v", c.digits, sparse, dense)
		}
	}
}

// Lists of numbers about MaxNumber: no more than that is a value.
func TestFibValueAboutTheLimit(t *testing.T) {
	for n := maxNumber - 100; n <= maxNumber+100; n++ {
		lists := rewrittenFib(sparseFibList(n))
		if len(lists[0]) != 58 || len(lists[len(lists)-1]) > 57 || !slices.Equal(lists[len(lists)-1], denseFibList(n)) {
			t.Errorf("the lists of %d begin and end with %v and %v", n, lists[0], lists[len(lists)-1])
		}
		for i, list := range lists {
			if got := fibNumber(list); got != n {
				t.Fatalf("%v is %d, not %d", list, got, n)
			}
			checkFibList(t, list)
			if got, ok := impl.FibValue(list); ok != (n <= maxNumber) || ok && got != n || !ok && got != 0 {
				t.Errorf("FibValue(%v) = %d, %v, not %d", list, got, ok, n)
			}
			if impl.IsSparseFib(list) != (i == 0) || impl.IsDenseFib(list) != (i == len(lists)-1) {
				t.Errorf("%v is sparse or dense, or is not", list)
			}
		}
	}
}

// All lists of up to 16 digits: each number has one sparse list, one dense list, and as many as are counted.
func TestEachNumberHasOneSparseAndOneDenseList(t *testing.T) {
	const most = 16
	end := fibPlaces[most]
	sparse, dense, counts := make([][]int, end), make([][]int, end), make([]int, end)
	for _, list := range listsOver([]int{0, 1}, most) {
		n := fibNumber(list)
		if n >= end || !isFibList(list) {
			continue
		}
		counts[n]++
		if impl.IsSparseFib(list) {
			if sparse[n] != nil {
				t.Errorf("%d has the sparse digits %v and %v", n, sparse[n], list)
			}
			sparse[n] = list
		}
		if impl.IsDenseFib(list) {
			if dense[n] != nil {
				t.Errorf("%d has the dense digits %v and %v", n, dense[n], list)
			}
			dense[n] = list
		}
	}
	for n := range end {
		if got := impl.SparseFib(n); sparse[n] == nil || !slices.Equal(got, sparse[n]) {
			t.Errorf("SparseFib(%d) = %v, want %v", n, got, sparse[n])
		}
		if got := impl.DenseFib(n); dense[n] == nil || !slices.Equal(got, dense[n]) {
			t.Errorf("DenseFib(%d) = %v, want %v", n, got, dense[n])
		}
		if got := impl.CountFib(n); got != counts[n] {
			t.Errorf("CountFib(%d) = %d, want %d", n, got, counts[n])
		}
	}
}

func TestSparseAndDenseFibTable(t *testing.T) {
	sparseHalf := []int{0, 0, 0, 0, 1, 0, 0, 0, 0, 1, 0, 0, 1, 0, 1, 0, 1, 0, 1, 0, 0, 0, 0, 1, 0, 0, 0, 0, 0, 0, 1, 0, 0, 0, 1, 0, 1, 0, 0, 1, 0, 0, 1, 0, 1, 0, 0, 0, 1, 0, 1, 0, 1, 0, 0, 1}
	denseHalf := []int{1, 1, 0, 1, 0, 1, 1, 0, 1, 0, 1, 1, 1, 1, 1, 1, 1, 1, 0, 1, 1, 0, 1, 0, 1, 1, 0, 1, 0, 1, 1, 1, 0, 1, 1, 1, 0, 1, 1, 0, 1, 1, 1, 1, 1, 1, 0, 1, 1, 1, 1, 1, 0, 1, 1}
	cases := []struct {
		n             int
		sparse, dense []int
	}{
		{-1, nil, nil}, {0, nil, nil}, {1, []int{1}, []int{1}}, {2, []int{0, 1}, []int{0, 1}}, {3, []int{0, 0, 1}, []int{1, 1}}, {4, []int{1, 0, 1}, []int{1, 0, 1}}, {5, []int{0, 0, 0, 1}, []int{0, 1, 1}}, {6, []int{1, 0, 0, 1}, []int{1, 1, 1}},
		{7, []int{0, 1, 0, 1}, []int{0, 1, 0, 1}}, {8, []int{0, 0, 0, 0, 1}, []int{1, 1, 0, 1}}, {9, []int{1, 0, 0, 0, 1}, []int{1, 0, 1, 1}}, {10, []int{0, 1, 0, 0, 1}, []int{0, 1, 1, 1}}, {11, []int{0, 0, 1, 0, 1}, []int{1, 1, 1, 1}},
		{12, []int{1, 0, 1, 0, 1}, []int{1, 0, 1, 0, 1}}, {13, []int{0, 0, 0, 0, 0, 1}, []int{0, 1, 1, 0, 1}}, {100, []int{0, 0, 1, 0, 1, 0, 0, 0, 0, 1}, []int{1, 1, 1, 1, 0, 1, 1, 0, 1}},
		{halfNumber, sparseHalf, denseHalf}, {halfNumber - 1, append([]int{0, 1, 0, 1, 0}, sparseHalf[5:]...), append([]int{0}, denseHalf[1:]...)}, {halfNumber + 1, nil, nil}, {maxNumber, nil, nil}, {math.MinInt64, nil, nil}, {math.MaxInt64, nil, nil},
	}
	for _, c := range cases {
		if got := impl.SparseFib(c.n); !slices.Equal(got, c.sparse) {
			t.Errorf("SparseFib(%d) = %v, want %v", c.n, got, c.sparse)
		}
		if got := impl.DenseFib(c.n); !slices.Equal(got, c.dense) {
			t.Errorf("DenseFib(%d) = %v, want %v", c.n, got, c.dense)
		}
	}
}

func TestSparseAndDenseFibOfNumbers(t *testing.T) {
	for _, n := range fibNumbers() {
		sparse, dense := impl.SparseFib(n), impl.DenseFib(n)
		lists := rewrittenFib(sparseFibList(n))
		if !slices.Equal(sparse, lists[0]) || fibNumber(sparse) != n || !isFibList(sparse) || hasTwo(sparse, "1") {
			t.Errorf("SparseFib(%d) = %v, want %v", n, sparse, lists[0])
		}
		if !slices.Equal(dense, lists[len(lists)-1]) || !slices.Equal(dense, denseFibList(n)) || fibNumber(dense) != n || !isFibList(dense) || hasTwo(dense, "0") {
			t.Errorf("DenseFib(%d) = %v, want %v", n, dense, denseFibList(n))
		}
		for _, list := range lists {
			if got, ok := impl.FibValue(list); got != n || !ok {
				t.Errorf("FibValue(%v) = %d, %v, want %d", list, got, ok, n)
			}
			if impl.IsSparseFib(list) != slices.Equal(list, sparse) || impl.IsDenseFib(list) != slices.Equal(list, dense) {
				t.Errorf("%v is sparse or dense, or is not", list)
			}
		}
	}
}

func TestNoSparseAndDenseFib(t *testing.T) {
	for _, n := range noFibNumbers() {
		if sparse, dense := impl.SparseFib(n), impl.DenseFib(n); len(sparse) != 0 || len(dense) != 0 {
			t.Errorf("the digits of %d are %v and %v", n, sparse, dense)
		}
	}
}

// A place alone and all lesser places together are written as the sums of places are.
func TestFibDigitsOfPlaces(t *testing.T) {
	for k := range 56 {
		place := impl.FibPlace(k)
		if got := impl.SparseFib(place); !slices.Equal(got, append(make([]int, k), 1)) {
			t.Errorf("SparseFib(%d) = %v", place, got)
		}
		full := slices.Repeat([]int{1}, k)
		if n := fibNumber(full); n <= halfNumber && !slices.Equal(impl.DenseFib(n), full) {
			t.Errorf("DenseFib(%d) = %v", n, impl.DenseFib(n))
		}
		// One less is every second place, which is sparse and dense.
		every2 := slices.Repeat([]int{0, 1}, k)[k:]
		if k%2 == 1 {
			every2 = slices.Repeat([]int{1, 0}, k)[:k]
		}
		if sparse, dense := impl.SparseFib(place-1), impl.DenseFib(place-1); !slices.Equal(sparse, every2) || !slices.Equal(dense, every2) {
			t.Errorf("the digits of %d are %v and %v", place-1, sparse, dense)
		}
	}
}

// countedFib counts the lists of all numbers at once: each place doubles them, as it is added to each or not.
func countedFib(end int) []int {
	counts := make([]int, end)
	counts[0] = 1
	for _, place := range fibPlaces {
		for n := end - 1; n >= place; n-- {
			counts[n] += counts[n-place]
		}
	}
	return counts
}

func TestCountFibOfAllNumbers(t *testing.T) {
	counts := countedFib(countedNumber + 1)
	for n := 0; n <= countedNumber; n++ {
		if got := impl.CountFib(n); got != counts[n] {
			t.Fatalf("CountFib(%d) = %d, want %d", n, got, counts[n])
		}
	}
}

func TestCountFibTable(t *testing.T) {
	cases := [][2]int{
		{-1, -1}, {-2, -1}, {0, 1}, {1, 1}, {2, 1}, {3, 2}, {4, 1}, {5, 2}, {6, 2}, {7, 1}, {8, 3}, {9, 2}, {10, 2}, {11, 3}, {12, 1}, {13, 3}, {14, 3}, {16, 4}, {20, 1}, {21, 4}, {24, 5}, {33, 1}, {34, 4}, {55, 5}, {89, 5}, {144, 6}, {100, 9},
		{75024, 1}, {75025, 12}, {75026, 12}, {87838, 288}, {99999, 192}, {100000, 48}, {100001, -1}, {100002, -1}, {121392, -1}, {121393, -1}, {halfNumber, -1}, {maxNumber, -1}, {math.MaxInt64, -1}, {math.MaxInt64 - 1, -1}, {math.MinInt64, -1}, {math.MinInt64 + 1, -1}, {1 << 32, -1}, {-countedNumber, -1},
	}
	for _, c := range cases {
		if got := impl.CountFib(c[0]); got != c[1] {
			t.Errorf("CountFib(%d) = %d, want %d", c[0], got, c[1])
		}
	}
	// A place alone has a list more for each two places before it, a place less one only one.
	for k := range 24 {
		place := fibPlaces[k]
		if one, other := impl.CountFib(place), impl.CountFib(place-1); one != k/2+1 || other != 1 {
			t.Errorf("CountFib of %d and %d are %d and %d", place, place-1, one, other)
		}
	}
}

// goldenPart returns the integer part of k times the golden section, (1 + the square root of 5) / 2, without rounding.
func goldenPart(k int) int {
	square := new(big.Int).Mul(big.NewInt(int64(k)), big.NewInt(int64(k)))
	root := new(big.Int).Sqrt(square.Mul(square, big.NewInt(5)))
	return (k + int(root.Int64())) / 2
}

// shiftedFib puts a digit 0 before the sparse digits.
func shiftedFib(n int) int { return fibNumber(append([]int{0}, sparseFibList(n)...)) }

func TestShiftFibTable(t *testing.T) {
	cases := [][2]int{
		{-1, -1}, {0, 0}, {1, 2}, {2, 3}, {3, 5}, {4, 7}, {5, 8}, {6, 10}, {7, 11}, {8, 13}, {9, 15}, {10, 16}, {11, 18}, {12, 20}, {13, 21}, {33, 54}, {100, 162}, {50000000, 80901700}, {99999999, 161803397}, {100000000, 161803399},
		{100000001, -1}, {100000002, -1}, {-2, -1}, {-shiftedNumber, -1}, {1 << 32, -1}, {-1 << 32, -1}, {halfNumber, -1}, {maxNumber, -1}, {math.MaxInt64, -1}, {math.MaxInt64 - 1, -1}, {math.MinInt64, -1}, {math.MinInt64 + 1, -1},
	}
	for _, c := range cases {
		if got := impl.ShiftFib(c[0]); got != c[1] {
			t.Errorf("ShiftFib(%d) = %d, want %d", c[0], got, c[1])
		}
	}
}

func TestShiftFibOfNumbers(t *testing.T) {
	numbers := append(upTo(0, 5000), upTo(shiftedNumber-500, shiftedNumber)...)
	for n := 5000; n <= shiftedNumber; n += 1 + n/300 {
		numbers = append(numbers, n)
	}
	for _, place := range fibPlaces[:38] {
		numbers = append(numbers, max(place-2, 0), place-1, place, place+1, place+2)
	}
	for _, n := range numbers {
		want := shiftedFib(n)
		if golden := goldenPart(n+1) - 1; n > shiftedNumber || golden != want {
			t.Errorf("%d shifted is %d or %d", n, want, golden)
		}
		got := impl.ShiftFib(n)
		if got != want {
			t.Errorf("ShiftFib(%d) = %d, want %d", n, got, want)
		}
		digits := impl.SparseFib(got)
		if n > 0 && (digits[0] != 0 || !slices.Equal(digits[1:], impl.SparseFib(n))) {
			t.Errorf("the digits of ShiftFib(%d) are %v", n, digits)
		}
	}
}

// All pairs are found as they are defined: the least number that is in no pair before, and that plus the number of the pair.
func TestWythoffPairOfAllNumbers(t *testing.T) {
	taken := make([]bool, 3*pairCount)
	first := 1
	for k := 1; k <= pairCount; k++ {
		for taken[first] {
			first++
		}
		taken[first], taken[first+k] = true, true
		if m, n := impl.WythoffPair(k); m != first || n != first+k {
			t.Fatalf("WythoffPair(%d) = %d, %d, want %d, %d", k, m, n, first, first+k)
		}
		if k%997 == 0 && goldenPart(k) != first {
			t.Errorf("the pair %d begins with %d, not %d", k, goldenPart(k), first)
		}
	}
}

func TestWythoffPairTable(t *testing.T) {
	cases := [][3]int{
		{-1, 0, 0}, {0, 0, 0}, {1, 1, 2}, {2, 3, 5}, {3, 4, 7}, {4, 6, 10}, {5, 8, 13}, {6, 9, 15}, {7, 11, 18}, {8, 12, 20}, {10, 16, 26}, {100, 161, 261}, {999999, 1618032, 2618031}, {1000000, 1618033, 2618033}, {1000001, 0, 0}, {1000002, 0, 0}, {-2, 0, 0}, {-1000000, 0, 0},
		{shiftedNumber, 0, 0}, {shiftedNumber + 1, 0, 0}, {shiftedNumber + 2, 0, 0}, {1 << 32, 0, 0}, {1<<32 + 3, 0, 0}, {-1 << 32, 0, 0}, {maxNumber, 0, 0}, {math.MaxInt64, 0, 0}, {math.MaxInt64 - 1, 0, 0}, {math.MinInt64, 0, 0}, {math.MinInt64 + 1, 0, 0},
	}
	for _, c := range cases {
		if m, n := impl.WythoffPair(c[0]); m != c[1] || n != c[2] {
			t.Errorf("WythoffPair(%d) = %d, %d, want %d, %d", c[0], m, n, c[1], c[2])
		}
	}
}

// The letters are those of the word that grows from a when each a becomes ab and each b becomes a.
func TestFibWord(t *testing.T) {
	word := "a"
	for len(word) < 300 {
		word = strings.NewReplacer("a", "ab", "b", "a").Replace(word)
	}
	for k := -300; k <= 300; k++ {
		want := ""
		if k >= 0 && k <= 200 {
			want = word[:k]
		}
		if got := impl.FibWord(k); got != want {
			t.Errorf("FibWord(%d) = %q, want %q", k, got, want)
		}
	}
	for _, k := range []int{math.MinInt64, math.MinInt64 + 1, -1 << 32, -1<<32 + 5, 1 << 32, 1<<32 + 5, maxNumber, math.MaxInt64 - 1, math.MaxInt64} {
		if got := impl.FibWord(k); got != "" {
			t.Errorf("FibWord(%d) = %q", k, got)
		}
	}
	cases := map[int]string{-1: "", 0: "", 1: "a", 2: "ab", 3: "aba", 4: "abaa", 5: "abaab", 8: "abaababa", 13: "abaababaabaab", 201: ""}
	for k, want := range cases {
		if got := impl.FibWord(k); got != want {
			t.Errorf("FibWord(%d) = %q, want %q", k, got, want)
		}
	}
}

// The letter of a number is b where its sparse digits begin with 1.
func TestFibWordLetters(t *testing.T) {
	word := impl.FibWord(200)
	for i := range len(word) {
		digits := sparseFibList(i)
		want := byte('a')
		if len(digits) > 0 && digits[0] == 1 {
			want = 'b'
		}
		if word[i] != want {
			t.Errorf("the letter %d is %c", i, word[i])
		}
	}
}

// fibCalls are calls with two lists for checkMemory.
func fibCalls() map[string]func(a, c []int) [][]int {
	number := map[bool]int{true: 1}
	asked := func(list []int) []int {
		n, ok := impl.FibValue(list)
		return []int{n, number[ok], number[impl.FibOk(list)], number[impl.IsSparseFib(list)], number[impl.IsDenseFib(list)]}
	}
	return map[string]func(a, c []int) [][]int{
		"SparseFib": func(a, c []int) [][]int {
			m, _ := impl.FibValue(a)
			n, _ := impl.FibValue(c)
			return [][]int{impl.SparseFib(m), impl.SparseFib(n), impl.SparseFib(m)}
		},
		"DenseFib": func(a, c []int) [][]int {
			m, _ := impl.FibValue(a)
			n, _ := impl.FibValue(c)
			return [][]int{impl.DenseFib(m), impl.DenseFib(n), impl.DenseFib(m), impl.SparseFib(m)}
		},
		"the answers for a list": func(a, c []int) [][]int { return [][]int{asked(a), asked(c), asked(a)} },
	}
}

func TestFibResultsShareNoMemory(t *testing.T) {
	pairs := [][2][]int{
		{{1, 0, 1}, {1, 1}}, {{}, {1}}, {{1}, {}}, {{}, {}}, {{1, 0}, {2}}, {{0, 1}, {0, 1}}, {slices.Repeat([]int{1}, 55), slices.Repeat([]int{0, 1}, 27)}, {slices.Repeat([]int{0, 1}, 29), slices.Repeat([]int{1}, 59)},
	}
	for name, call := range fibCalls() {
		for _, pair := range pairs {
			checkMemory(t, name, call, pair)
		}
	}
}

func TestFibFunctionsLeaveTheirArguments(t *testing.T) {
	lists := append(append(listsOver([]int{-1, 0, 1, 2}, 5), longFibLists()...), noFibLists()...)
	for _, list := range lists {
		// The memory behind the digits is seen by the caller.
		whole := append(slices.Clone(list), 77, 78, 79)
		before := slices.Clone(whole)
		digits := whole[:len(list)]
		impl.FibOk(digits)
		impl.FibValue(digits)
		impl.IsSparseFib(digits)
		impl.IsDenseFib(digits)
		if !slices.Equal(whole, before) {
			t.Errorf("%v became %v", before, whole)
		}
	}
}
