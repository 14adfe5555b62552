package tests

import (
	"math"
	"math/big"
	"slices"
	"testing"

	"loop.example/g03203/impl"
)

// signedExact adds the places of any list one by one.
func signedExact(digits []int) *big.Int { return negaExact(digits, -2) }

// sparseListOf finds the sparse digits without carrying: they are the differences of the bits of 3n and n, without the first one.
func sparseListOf(n *big.Int) []int {
	size := new(big.Int).Abs(n)
	triple := new(big.Int).Mul(size, big.NewInt(3))
	list := []int{}
	for k := 1; k < triple.BitLen(); k++ {
		list = append(list, (int(triple.Bit(k))-int(size.Bit(k)))*n.Sign())
	}
	return slices.Clip(list)
}

func sparseList(n int) []int { return sparseListOf(big.NewInt(int64(n))) }

// sparseAnswer is what RewriteSigned should return for an exact integer.
func sparseAnswer(exact *big.Int) ([]int, bool) {
	list := sparseListOf(exact)
	if len(list) > 60 {
		return nil, false
	}
	return list, true
}

func opposite(list []int) []int {
	negative := []int{}
	for _, d := range list {
		negative = append(negative, -d)
	}
	return negative
}

func countNotZero(list []int) int {
	count := 0
	for _, d := range list {
		if d != 0 {
			count++
		}
	}
	return count
}

// hasNeighbours reports whether two digits that follow each other are both not 0.
func hasNeighbours(list []int) bool {
	for k := range list {
		if k > 0 && list[k] != 0 && list[k-1] != 0 {
			return true
		}
	}
	return false
}

// signedListsOf lists some of the lists of signed digits of one integer.
func signedListsOf(n int) [][]int {
	binary := listOf(textOf(max(n, -n), 2))
	if n < 0 {
		binary = opposite(binary)
	}
	lists := [][]int{sparseList(n), binary}
	for _, list := range lists {
		for k, d := range list {
			// A digit counts the same as its opposite with another one at the next place, if there is room.
			if d != 0 && (k+1 == len(list) || list[k+1] == 0) {
				longer := append(slices.Clone(list), 0)[:max(len(list), k+2)]
				longer[k], longer[k+1] = -d, d
				lists = append(lists, longer)
			}
		}
	}
	return lists
}

// longSignedLists lists signed digits of many lengths, up to 60.
func longSignedLists() [][]int {
	lists := longBalancedLists(3)
	// The patterns are repeated from the last place to the first.
	patterns := [][]int{{1}, {1, 0}, {1, -1}, {1, 0, 0}, {1, 1, 0}, {1, 0, -1, 0}, {1, -1, -1}, {1, 1, -1, -1}, {1, 0, 1, 0, -1}}
	for _, count := range []int{1, 2, 3, 4, 5, 6, 30, 39, 40, 41, 42, 58, 59, 60} {
		for _, pattern := range patterns {
			list := make([]int, count)
			for k := range list {
				list[count-1-k] = pattern[k%len(pattern)]
			}
			lists = append(lists, list, opposite(list))
			for first := -1; first <= 1 && count > 1; first++ {
				changed := append([]int{first}, list[1:]...)
				lists = append(lists, changed, opposite(changed))
			}
		}
	}
	return lists
}

// wrongSignedLists lists what is no signed digits.
func wrongSignedLists() [][]int {
	long := append([]int{-1}, slices.Repeat([]int{0, 1}, 30)...)
	return append(wrongBalancedLists(3), []int{2, 1}, []int{-2, 1}, []int{1, 2}, []int{1, -2}, []int{1, 0, 2, 0, 1}, []int{1, 1, 0}, []int{1, 0, 1, 0}, []int{1, 3}, long)
}

func TestSignedOk(t *testing.T) {
	for _, list := range listsOver(upTo(-2, 2), 6) {
		want := (len(list) == 0 || list[len(list)-1] != 0) && !slices.Contains(list, 2) && !slices.Contains(list, -2)
		if got := impl.SignedOk(list); got != want || got != impl.BalancedOk(list, 3) {
			t.Errorf("SignedOk(%v) = %v", list, got)
		}
	}
	for _, list := range append(longSignedLists(), nil, []int{}) {
		if !impl.SignedOk(list) {
			t.Errorf("SignedOk(%v) is false", list)
		}
	}
	for _, list := range wrongSignedLists() {
		if impl.SignedOk(list) {
			t.Errorf("SignedOk(%v) is true", list)
		}
	}
}

func TestSparseDigitsTable(t *testing.T) {
	million2 := []int{0, 0, 0, 0, 0, 0, 0, 0, 0, 0, 0, 0, 1, 0, 0, 0, 1, 0, 1, 0, 0, 1, 0, 1, 0, 0, 1, 0, 1, 0, -1, 0, 1, 0, 0, 1, 0, -1, 0, 0, 1}
	cases := []struct {
		n    int
		want []int
	}{
		{0, nil}, {1, []int{1}}, {-1, []int{-1}}, {2, []int{0, 1}}, {-2, []int{0, -1}}, {3, []int{-1, 0, 1}}, {-3, []int{1, 0, -1}}, {4, []int{0, 0, 1}},
		{5, []int{1, 0, 1}}, {-5, []int{-1, 0, -1}}, {6, []int{0, -1, 0, 1}}, {7, []int{-1, 0, 0, 1}}, {-7, []int{1, 0, 0, -1}}, {8, []int{0, 0, 0, 1}}, {9, []int{1, 0, 0, 1}},
		{10, []int{0, 1, 0, 1}}, {11, []int{-1, 0, -1, 0, 1}}, {-11, []int{1, 0, 1, 0, -1}}, {13, []int{1, 0, -1, 0, 1}}, {15, []int{-1, 0, 0, 0, 1}}, {21, []int{1, 0, 1, 0, 1}},
		{1 << 39, append(make([]int, 39), 1)}, {1<<39 - 1, append(append([]int{-1}, make([]int, 38)...), 1)}, {maxNumber, million2}, {-maxNumber, opposite(million2)},
		{maxNumber - 1, append([]int{-1}, million2[1:]...)}, {1 - maxNumber, append([]int{1}, opposite(million2[1:])...)},
		{maxNumber + 1, nil}, {-maxNumber - 1, nil}, {math.MaxInt64, nil}, {math.MinInt64, nil},
	}
	for _, c := range cases {
		if got := impl.SparseDigits(c.n); !slices.Equal(got, c.want) {
			t.Errorf("SparseDigits(%d) = %v, want %v", c.n, got, c.want)
		}
	}
}

func TestSparseDigitsOfIntegers(t *testing.T) {
	for _, n := range someIntegers() {
		want := sparseList(n)
		got := impl.SparseDigits(n)
		if !slices.Equal(got, want) || signedExact(got).Cmp(big.NewInt(int64(n))) != 0 || !impl.SignedOk(got) || !impl.IsSparse(got) || hasNeighbours(got) {
			t.Fatalf("SparseDigits(%d) = %v, want %v", n, got, want)
		}
		if weight := impl.LeastWeight(n); weight != countNotZero(want) {
			t.Errorf("LeastWeight(%d) = %d, want %d", n, weight, countNotZero(want))
		}
	}
}

func TestNoSparseDigits(t *testing.T) {
	for _, n := range integersBeyond() {
		if got := impl.SparseDigits(n); len(got) != 0 {
			t.Errorf("SparseDigits(%d) = %v", n, got)
		}
		if got := impl.LeastWeight(n); got != -1 {
			t.Errorf("LeastWeight(%d) = %d", n, got)
		}
	}
}

func TestIsSparse(t *testing.T) {
	for _, list := range listsOver(upTo(-2, 2), 6) {
		want := impl.SignedOk(list) && !hasNeighbours(list)
		if got := impl.IsSparse(list); got != want {
			t.Errorf("IsSparse(%v) = %v", list, got)
		}
	}
	for _, list := range longSignedLists() {
		want := slices.Equal(list, sparseListOf(signedExact(list)))
		if got := impl.IsSparse(list); got != want || got == hasNeighbours(list) {
			t.Errorf("IsSparse(%v) = %v", list, got)
		}
	}
	for _, list := range wrongSignedLists() {
		if impl.IsSparse(list) {
			t.Errorf("IsSparse(%v) is true", list)
		}
	}
}

// Two digits that follow each other are found at every place.
func TestIsSparseOfOnePair(t *testing.T) {
	for k := range 59 {
		for _, d := range [][2]int{{1, 1}, {1, -1}, {-1, 1}, {-1, -1}} {
			list := append(make([]int, k), d[0], d[1])
			if k < 57 {
				list = append(append(list, make([]int, 57-k)...), 1)
			}
			if impl.IsSparse(list) {
				t.Errorf("IsSparse(%v) is true", list)
			}
			list[k] = 0
			if k < 56 && !impl.IsSparse(list) {
				t.Errorf("IsSparse(%v) is false", list)
			}
		}
	}
}

func TestEachIntegerHasOneSparseList(t *testing.T) {
	found, lists, least := map[int][]int{}, map[int]int{}, map[int]int{}
	for _, list := range listsOver(upTo(-1, 1), 9) {
		if len(list) > 0 && list[len(list)-1] == 0 {
			continue
		}
		n, ok := impl.SignedValue(list)
		if !ok || big.NewInt(int64(n)).Cmp(signedExact(list)) != 0 {
			t.Fatalf("SignedValue(%v) = %d, %v", list, n, ok)
		}
		if weight := countNotZero(list); lists[n] == 0 || weight < least[n] {
			least[n] = weight
		}
		lists[n]++
		if impl.IsSparse(list) {
			if found[n] != nil {
				t.Errorf("%d has the sparse digits %v and %v", n, found[n], list)
			}
			found[n] = list
		}
	}
	// An integer beyond these may have other digits, of more places.
	for n := -255; n <= 255; n++ {
		if found[n] == nil || !slices.Equal(found[n], impl.SparseDigits(n)) || lists[n] < 2 && n != 0 {
			t.Errorf("SparseDigits(%d) = %v, want %v", n, impl.SparseDigits(n), found[n])
		}
		if got := impl.LeastWeight(n); got != least[n] || got != impl.WeightOf(found[n]) {
			t.Errorf("LeastWeight(%d) = %d, want %d", n, got, least[n])
		}
	}
}

func TestSignedValueTable(t *testing.T) {
	cases := []struct {
		digits []int
		want   int
		ok     bool
	}{
		{nil, 0, true}, {[]int{}, 0, true}, {[]int{1}, 1, true}, {[]int{-1}, -1, true}, {[]int{-1, 1}, 1, true}, {[]int{1, -1}, -1, true}, {[]int{-1, -1, 1}, 1, true},
		{[]int{1, 1}, 3, true}, {[]int{-1, 0, 1}, 3, true}, {[]int{-1, 0, 0, 1}, 7, true}, {[]int{1, 1, 1}, 7, true}, {[]int{1, 0, 0, -1}, -7, true}, {[]int{0, 1}, 2, true},
		{append(slices.Repeat([]int{-1}, 59), 1), 1, true}, {append(slices.Repeat([]int{1}, 59), -1), -1, true}, {append(make([]int, 39), 1), 1 << 39, true}, {append(make([]int, 40), 1), 0, false},
		{append(make([]int, 40), -1), 0, false}, {append(make([]int, 39), -1, 1), 1 << 39, true}, {append(make([]int, 39), -1, -1, 1), 1 << 39, true}, {append(make([]int, 59), 1), 0, false},
		{slices.Repeat([]int{1}, 60), 0, false}, {slices.Repeat([]int{-1}, 60), 0, false}, {append(slices.Repeat([]int{-1}, 60), 1), 0, false},
		{[]int{0}, 0, false}, {[]int{1, 0}, 0, false}, {[]int{2}, 0, false}, {[]int{-2}, 0, false}, {[]int{1, 2}, 0, false}, {[]int{2, 1}, 0, false}, {[]int{-2, 1}, 0, false},
	}
	for _, c := range cases {
		if got, ok := impl.SignedValue(c.digits); got != c.want || ok != c.ok {
			t.Errorf("SignedValue(%v) = %d, %v, want %d, %v", c.digits, got, ok, c.want, c.ok)
		}
	}
}

// checkSigned asks every function for signed digits.
func checkSigned(t *testing.T, list []int) {
	t.Helper()
	exact := signedExact(list)
	want, good := 0, within(exact)
	if good {
		want = int(exact.Int64())
	}
	if got, ok := impl.SignedValue(list); got != want || ok != good {
		t.Errorf("SignedValue(%v) = %d, %v, want %v", list, got, ok, exact)
	}
	if got := impl.WeightOf(list); got != countNotZero(list) {
		t.Errorf("WeightOf(%v) = %d", list, got)
	}
	sparse, fits := sparseAnswer(exact)
	got, ok := impl.RewriteSigned(list)
	checkList(t, got, ok, sparse, fits, "RewriteSigned", list)
}

func TestSignedListsOfIntegers(t *testing.T) {
	numbers := append(someIntegers(), integersBeyond()[3:9]...)
	for _, middle := range []int{maxNumber, -maxNumber} {
		numbers = append(numbers, upTo(middle-300, middle+300)...)
	}
	for _, n := range numbers {
		for _, list := range signedListsOf(n) {
			checkSigned(t, list)
			if exact := signedExact(list); exact.Cmp(big.NewInt(int64(n))) != 0 || !impl.SignedOk(list) {
				t.Fatalf("%v are no signed digits of %d", list, n)
			}
			if n >= -maxNumber && n <= maxNumber && impl.LeastWeight(n) > impl.WeightOf(list) {
				t.Errorf("LeastWeight(%d) = %d, but %v has the weight %d", n, impl.LeastWeight(n), list, impl.WeightOf(list))
			}
		}
	}
}

func TestSignedListsOfAllShortLengths(t *testing.T) {
	for _, list := range listsOver(upTo(-1, 1), 8) {
		if len(list) == 0 || list[len(list)-1] != 0 {
			checkSigned(t, list)
		}
	}
}

func TestLongSignedLists(t *testing.T) {
	lists := longSignedLists()
	state := 2024
	for count := 1; count <= 60; count++ {
		for range 50 {
			list := make([]int, count)
			for k := range list {
				state = (state*1103515245 + 12345) % 2147483648
				list[k] = state/65536%3 - 1
			}
			list[count-1] = 1
			lists = append(lists, list, opposite(list))
		}
	}
	for _, list := range lists {
		checkSigned(t, list)
	}
}

func TestRewriteSignedTable(t *testing.T) {
	ones := slices.Repeat([]int{1}, 60)
	zeros := make([]int, 60)
	every2 := slices.Repeat([]int{0, 1}, 30)
	cases := []struct {
		name   string
		digits []int
		want   []int
		ok     bool
	}{
		{"nothing", nil, nil, true},
		{"a digit", []int{1}, []int{1}, true},
		{"a digit below 0", []int{-1}, []int{-1}, true},
		{"sparse digits", []int{-1, 0, 1, 0, 0, -1}, []int{-1, 0, 1, 0, 0, -1}, true},
		{"zeros first", []int{0, 0, 1}, []int{0, 0, 1}, true},
		{"one place more", []int{1, 1}, []int{-1, 0, 1}, true},
		{"one place more below 0", []int{-1, -1}, []int{1, 0, -1}, true},
		{"one place more by carries", []int{1, 1, 1}, []int{-1, 0, 0, 1}, true},
		{"a carry to a place with 1", []int{1, 1, 0, 1}, []int{-1, 0, -1, 0, 1}, true},
		{"a carry to a place with -1", []int{1, 1, -1, 0, 1}, []int{-1, 0, 0, 0, 1}, true},
		{"a place less", []int{-1, 1}, []int{1}, true},
		{"a place less below 0", []int{1, -1}, []int{-1}, true},
		{"many places less", append(slices.Repeat([]int{-1}, 59), 1), []int{1}, true},
		{"as many places", []int{1, 1, 0, -1, 1}, []int{-1, 0, -1, 0, 1}, true},
		{"60 digits from 59", ones[:59], append(append([]int{-1}, zeros[:58]...), 1), true},
		{"60 sparse digits", every2, every2, true},
		{"60 sparse digits below 0", opposite(every2), opposite(every2), true},
		{"60 digits that stay 60", append([]int{1, -1}, append(slices.Clone(zeros[:57]), 1)...), append([]int{-1}, append(slices.Clone(zeros[:58]), 1)...), true},
		{"61 digits", ones, nil, false},
		{"61 digits below 0", opposite(ones), nil, false},
		{"61 digits from the last two", append(slices.Clone(zeros[:58]), 1, 1), nil, false},
		{"the least with 61", append([]int{1}, every2[1:]...), nil, false},
		{"the least with 61, below 0", opposite(append([]int{1}, every2[1:]...)), nil, false},
		{"61 given digits", append(slices.Clone(zeros), 1), nil, false},
		{"61 given digits with 60 sparse ones", append(slices.Clone(zeros[:59]), -1, 1), nil, false},
		{"a last digit 0", []int{1, 1, 0}, nil, false},
		{"no digit but 0", []int{0}, nil, false},
		{"a digit 2", []int{0, 2}, nil, false},
		{"a digit -2", []int{-2, 0, 1}, nil, false},
	}
	for _, c := range cases {
		got, ok := impl.RewriteSigned(c.digits)
		checkList(t, got, ok, c.want, c.ok, c.name)
	}
}

// What is rewritten is what SparseDigits writes, as far as that goes.
func TestRewriteSignedAgreesWithSparseDigits(t *testing.T) {
	for _, n := range someIntegers() {
		for _, list := range signedListsOf(n) {
			got, ok := impl.RewriteSigned(list)
			checkList(t, got, ok, impl.SparseDigits(n), true, "RewriteSigned", list)
		}
		if n >= 0 {
			got, ok := impl.RewriteSigned(impl.DigitsOf(n, 2))
			checkList(t, got, ok, impl.SparseDigits(n), true, "RewriteSigned of the digits of", n)
		}
	}
}

func TestWeightOf(t *testing.T) {
	cases := []struct {
		digits []int
		want   int
	}{
		{nil, 0}, {[]int{}, 0}, {[]int{1}, 1}, {[]int{-1}, 1}, {[]int{0, 1}, 1}, {[]int{0, -1}, 1}, {[]int{-1, 1}, 2}, {[]int{1, 1}, 2}, {[]int{-1, 0, 0, 1}, 2}, {[]int{-1, -1, -1}, 3},
		{slices.Repeat([]int{1}, 60), 60}, {slices.Repeat([]int{-1, 1}, 30), 60}, {append(make([]int, 59), -1), 1}, {slices.Repeat([]int{0, 1}, 30), 30},
		{[]int{0}, -1}, {[]int{1, 0}, -1}, {[]int{2}, -1}, {[]int{-2}, -1}, {[]int{2, 1}, -1}, {slices.Repeat([]int{1}, 61), -1}, {append(make([]int, 60), 1), -1},
	}
	for _, c := range cases {
		if got := impl.WeightOf(c.digits); got != c.want {
			t.Errorf("WeightOf(%v) = %d, want %d", c.digits, got, c.want)
		}
	}
}

func TestLeastWeightTable(t *testing.T) {
	cases := [][2]int{
		{0, 0}, {1, 1}, {-1, 1}, {2, 1}, {3, 2}, {-3, 2}, {5, 2}, {7, 2}, {8, 1}, {11, 3}, {21, 3}, {43, 4}, {1 << 39, 1}, {1<<39 - 1, 2}, {maxNumber, 12}, {-maxNumber, 12}, {maxNumber - 1, 13}, {1 - maxNumber, 13},
		{maxNumber + 1, -1}, {-maxNumber - 1, -1}, {math.MaxInt64, -1}, {math.MinInt64, -1}, {1 << 40, -1},
	}
	for _, c := range cases {
		if got := impl.LeastWeight(c[0]); got != c[1] {
			t.Errorf("LeastWeight(%d) = %d, want %d", c[0], got, c[1])
		}
	}
}

// countedLists counts all lists of a length by their values and weights.
func countedLists(places int) map[[2]int]int {
	counts := map[[2]int]int{}
	lists := 1
	for range places {
		lists *= 3
	}
	for number := range lists {
		value, weight := 0, 0
		for left, place := number, 1; left > 0; left, place = left/3, 2*place {
			value += []int{0, 1, -1}[left%3] * place
			weight += []int{0, 1, 1}[left%3]
		}
		counts[[2]int{value, weight}]++
	}
	return counts
}

func TestCountSignedCountsAllLists(t *testing.T) {
	for places := range 13 {
		counts := countedLists(places)
		beyond := 1<<places + 3
		numbers := append(upTo(-beyond, beyond), -5000, -4999, 4999, 5000)
		for _, n := range numbers {
			for weight := range 13 {
				if got, want := impl.CountSigned(n, places, weight), counts[[2]int{n, weight}]; got != want {
					t.Fatalf("CountSigned(%d, %d, %d) = %d, want %d", n, places, weight, got, want)
				}
			}
		}
	}
}

func TestCountSignedTable(t *testing.T) {
	cases := [][4]int{
		{0, 0, 0, 1}, {1, 0, 0, 0}, {-1, 0, 0, 0}, {5000, 0, 0, 0}, {0, 0, 1, 0}, {1, 0, 1, 0}, {0, 0, 12, 0}, {0, 1, 0, 1}, {0, 1, 1, 0}, {1, 1, 1, 1}, {-1, 1, 1, 1}, {1, 1, 0, 0}, {2, 1, 1, 0},
		{0, 12, 0, 1}, {0, 12, 1, 0}, {3, 3, 2, 2}, {3, 2, 1, 0}, {3, 2, 2, 1}, {1, 2, 1, 1}, {1, 2, 2, 1}, {1, 3, 3, 1}, {1, 12, 12, 1}, {-1, 12, 12, 1}, {1, 12, 5, 1}, {4095, 12, 12, 1}, {-4095, 12, 12, 1},
		{4095, 12, 11, 0}, {4096, 12, 12, 0}, {-4096, 12, 12, 0}, {2048, 12, 1, 1}, {4096, 12, 1, 0}, {1, 3, 12, 0}, {3, 2, 3, 0}, {2, 2, 2, 0},
		{5000, 12, 12, 0}, {-5000, 12, 12, 0}, {5000, 12, 0, 0}, {-5000, 0, 0, 0},
		{5001, 12, 12, -1}, {-5001, 12, 12, -1}, {5001, 0, 0, -1}, {-5001, 0, 0, -1}, {0, -1, 0, -1}, {0, 0, -1, -1}, {0, 13, 0, -1}, {0, 0, 13, -1}, {3, 13, 1, -1}, {3, 3, 13, -1}, {3, 13, 13, -1}, {0, -1, -1, -1},
		{3, -1, 2, -1}, {3, 3, -1, -1}, {0, -1, 13, -1}, {0, 13, -1, -1}, {5001, 13, 13, -1}, {-5001, -1, -1, -1},
	}
	for _, c := range cases {
		if got := impl.CountSigned(c[0], c[1], c[2]); got != c[3] {
			t.Errorf("CountSigned(%d, %d, %d) = %d, want %d", c[0], c[1], c[2], got, c[3])
		}
	}
}

func TestCountSignedBeyondItsLimits(t *testing.T) {
	far := []int{math.MinInt64, math.MinInt64 + 1, -maxNumber, -1 << 32, 1 << 32, maxNumber, math.MaxInt64 - 1, math.MaxInt64}
	wrong := append([]int{-100, -13, -12, -2, -1, 13, 14, 60, 64}, far...)
	for places := range 13 {
		for _, n := range append([]int{-5001, 5001, -5002, 5002, -10000, 10000}, far...) {
			if got := impl.CountSigned(n, places, 12-places); got != -1 {
				t.Errorf("CountSigned(%d, %d, %d) = %d", n, places, 12-places, got)
			}
		}
		for _, other := range wrong {
			for _, n := range []int{-5000, -1, 0, 1, 3, 5000} {
				if impl.CountSigned(n, places, other) != -1 || impl.CountSigned(n, other, places) != -1 || impl.CountSigned(n, other, other) != -1 {
					t.Errorf("CountSigned(%d) does not refuse %d with %d", n, other, places)
				}
			}
		}
	}
}

// The sparse digits are the only ones of their kind, and no list of a lesser weight has the value.
func TestCountSignedAgreesWithLeastWeight(t *testing.T) {
	for n := -2047; n <= 2047; n++ {
		least := impl.LeastWeight(n)
		for weight := range least {
			if got := impl.CountSigned(n, 12, weight); got != 0 {
				t.Errorf("CountSigned(%d, 12, %d) = %d, but the least weight is %d", n, weight, got, least)
			}
		}
		if impl.CountSigned(n, 12, least) < 1 || impl.CountSigned(n, len(impl.SparseDigits(n)), least) < 1 {
			t.Errorf("CountSigned(%d) does not count the sparse digits", n)
		}
	}
}

// stepsOf goes through the method and counts.
func stepsOf(t *testing.T, n int) int {
	list := sparseList(n)
	if n == 0 {
		return 0
	}
	value, steps := 1, 0
	for k := len(list) - 2; k >= 0; k-- {
		value *= 2
		steps++
		if list[k] != 0 {
			value += list[k]
			steps++
		}
	}
	if value != n {
		t.Fatalf("the method comes to %d, not to %d", value, n)
	}
	return steps
}

func TestStepsOf(t *testing.T) {
	cases := [][2]int{
		{0, 0}, {1, 0}, {2, 1}, {3, 3}, {4, 2}, {5, 3}, {6, 4}, {7, 4}, {8, 3}, {9, 4}, {10, 4}, {11, 6}, {15, 5}, {1 << 39, 39}, {1<<39 - 1, 40}, {maxNumber, 51}, {maxNumber - 1, 52},
		{-1, -1}, {-2, -1}, {-7, -1}, {-maxNumber, -1}, {-maxNumber - 1, -1}, {math.MinInt64, -1}, {maxNumber + 1, -1}, {maxNumber + 2, -1}, {1 << 40, -1}, {math.MaxInt64, -1},
	}
	for _, c := range cases {
		if got := impl.StepsOf(c[0]); got != c[1] {
			t.Errorf("StepsOf(%d) = %d, want %d", c[0], got, c[1])
		}
	}
	for _, n := range someNumbers() {
		if got, want := impl.StepsOf(n), stepsOf(t, n); got != want {
			t.Errorf("StepsOf(%d) = %d, want %d", n, got, want)
		}
	}
	for _, n := range badNumbers() {
		if got := impl.StepsOf(n); got != -1 {
			t.Errorf("StepsOf(%d) = %d", n, got)
		}
	}
}

func TestSignedDigitsOfWrongLists(t *testing.T) {
	for _, list := range wrongSignedLists() {
		if n, ok := impl.SignedValue(list); n != 0 || ok {
			t.Errorf("SignedValue(%v) = %d, %v", list, n, ok)
		}
		if got := impl.WeightOf(list); got != -1 {
			t.Errorf("WeightOf(%v) = %d", list, got)
		}
		got, ok := impl.RewriteSigned(list)
		checkList(t, got, ok, nil, false, "RewriteSigned", list)
	}
}

// signedCalls are calls with two lists for checkMemory.
func signedCalls() map[string]func(a, c []int) [][]int {
	return map[string]func(a, c []int) [][]int{
		"RewriteSigned": func(a, c []int) [][]int {
			one, _ := impl.RewriteSigned(a)
			other, _ := impl.RewriteSigned(c)
			again, _ := impl.RewriteSigned(a)
			return [][]int{one, other, again}
		},
		"SparseDigits": func(a, c []int) [][]int {
			return [][]int{impl.SparseDigits(7 + len(a)), impl.SparseDigits(-7 - len(c)), impl.SparseDigits(7 + len(a)), impl.SparseDigits(0)}
		},
		"SignedValue": func(a, c []int) [][]int {
			m, _ := impl.SignedValue(a)
			n, _ := impl.SignedValue(c)
			return [][]int{{m}, {n}}
		},
		"WeightOf": func(a, c []int) [][]int { return [][]int{{impl.WeightOf(a)}, {impl.WeightOf(c)}} },
		"IsSparse": func(a, c []int) [][]int {
			number := map[bool]int{true: 1}
			return [][]int{{number[impl.IsSparse(a)], number[impl.IsSparse(c)]}, {number[impl.SignedOk(a)], number[impl.SignedOk(c)]}}
		},
		"CountSigned": func(a, c []int) [][]int { return [][]int{{impl.CountSigned(len(a), 12, len(c))}} },
	}
}

func TestSignedResultsShareNoMemory(t *testing.T) {
	pairs := [][2][]int{
		{{1, 1, 1}, {-1, 0, 1}}, {{-1, 0, 0, 1}, {}}, {{}, {1}}, {{-1, -1}, {-1, 1}}, {{0, 1}, {0, 1}}, {{1, 1, 0, 1}, {1, -1, 1, -1}}, {{}, {}}, {{1, 0}, {2}}, {{1}, {1, 1, 1, 1, 1}},
	}
	for name, call := range signedCalls() {
		for _, pair := range pairs {
			checkMemory(t, name, call, pair)
		}
	}
}

func TestSignedFunctionsLeaveLongLists(t *testing.T) {
	for _, list := range append(longSignedLists(), wrongSignedLists()...) {
		before := slices.Clone(list)
		impl.SignedOk(list)
		impl.SignedValue(list)
		impl.IsSparse(list)
		impl.WeightOf(list)
		impl.RewriteSigned(list)
		if !slices.Equal(list, before) {
			t.Errorf("%v became %v", before, list)
		}
	}
}
