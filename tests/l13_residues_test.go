package tests

import (
	"cmp"
	"math"
	"math/big"
	"runtime"
	"slices"
	"sync"
	"testing"

	"loop.example/g03203/impl"
)

var (
	firstPrimes = []int{2, 3, 5, 7, 11, 13}
	// The greatest product of moduli is 999999999860, and the least one beyond MaxNumber is 1000000000212.
	moduliBelow  = []int{743, 347, 865, 4, 59, 19}
	fiveBelow    = []int{743, 347, 865, 236, 19}
	moduliBeyond = []int{379, 879, 4, 229, 113, 29}
	fiveBeyond   = []int{379, 879, 916, 113, 29}
	fourGreatest = []int{1000, 999, 997, 991}
)

// tinyModuli have so small a range that all its numbers can be tried.
func tinyModuli() [][]int {
	return [][]int{{2}, {3}, {4}, {999}, {1000}, {2, 3}, {3, 2}, {3, 5}, {5, 3}, {2, 9}, {8, 3}, {4, 9}, {16, 15}, {31, 32}, {2, 3, 5}, {5, 3, 2}, {3, 5, 7}, {7, 4, 9}, {9, 4, 7}, {6, 35}, {2, 3, 5, 7}, {4, 9, 5, 7}, {11, 7, 5, 3, 2}}
}

// someModuli are moduli of all lengths, up to the greatest range.
func someModuli() [][]int {
	lists := append(tinyModuli(), firstPrimes, moduliBelow, fiveBelow, fourGreatest, []int{1000, 999}, []int{999, 1000}, []int{2, 999}, []int{1000, 3}, []int{1000, 999, 997}, []int{512, 729, 625, 343, 11}, []int{61, 67, 71, 73, 79, 83}, []int{997, 991, 983, 977}, []int{32, 27, 25, 49, 11, 13}, []int{2, 3, 5, 7, 11, 997}, []int{30, 77, 221, 437}, []int{60, 59, 53, 49, 47, 43})
	for _, list := range [][]int{firstPrimes, moduliBelow, fiveBelow, fourGreatest} {
		lists = append(lists, backward(list), append(slices.Clone(list[2:]), list[:2]...))
	}
	return lists
}

// noModuli lists what are no moduli.
func noModuli() [][]int {
	lists := [][]int{
		nil, {}, {1}, {0}, {-1}, {-2}, {-1000}, {1001}, {1002}, {2000}, {math.MinInt64}, {math.MinInt64 + 1}, {math.MaxInt64}, {math.MaxInt64 - 1}, {1<<32 + 3}, {1<<32 + 3, 5}, {3, 1<<32 + 5},
		{1, 1}, {0, 0}, {-3, -5}, {-3, 5}, {3, -5}, {2, 2}, {3, 3}, {1000, 1000}, {999, 999}, {2, 4}, {4, 2}, {4, 6}, {6, 4}, {6, 9}, {10, 15}, {1000, 2}, {1000, 998}, {1000, 995}, {999, 3}, {997, 997}, {37, 999},
		{2, 3, 2}, {2, 2, 3}, {3, 2, 2}, {2, 3, 4}, {4, 3, 2}, {3, 4, 9}, {2, 3, 6}, {6, 2, 3}, {2, 15, 7, 3}, {6, 10, 15}, {14, 15, 77}, {5, 3, 7, 11, 13, 25}, {25, 3, 7, 11, 13, 5}, {3, 5, 7, 1}, {1, 3, 5}, {3, 5, 1001}, {0, 3, 5}, {3, 5, 0},
		{math.MinInt64, 3}, {3, math.MinInt64}, {math.MaxInt64, math.MinInt64}, {math.MinInt64, math.MinInt64}, {1 << 32, 3}, {3, math.MaxInt64},
		moduliBeyond, backward(moduliBeyond), fiveBeyond, backward(fiveBeyond), {997, 991, 983, 977, 971}, {997, 991, 983, 977, 971, 967}, {1000, 999, 997, 991, 7}, {999, 997, 991, 983, 977, 2}, {1000, 999, 997, 991, 989, 983}, slices.Repeat([]int{1000}, 6), slices.Repeat([]int{2}, 6), slices.Repeat([]int{1}, 6),
		append(slices.Clone(firstPrimes), 17), append([]int{17}, firstPrimes...), append(slices.Clone(firstPrimes), 1), append([]int{1}, firstPrimes...), append(slices.Clone(firstPrimes), 2), append(slices.Clone(moduliBelow), 7), slices.Repeat([]int{2}, 64), slices.Repeat([]int{256}, 8), {2, 3, 5, 7, 11, 13, 17, 19, 23, 29, 31}, upTo(2, 1000), slices.Repeat([]int{1}, 3000),
	}
	for _, list := range [][]int{{3}, {3, 5, 7}, firstPrimes, moduliBelow} {
		lists = append(lists, oneChanged(list, func(i int) []int {
			return []int{1, 0, -1, -list[i], 1001, list[i] + 1<<32, math.MinInt64, math.MaxInt64}
		})...)
		if len(list) > 1 {
			lists = append(lists, oneChanged(list, func(i int) []int { return []int{list[(i+1)%len(list)], 2 * list[(i+len(list)-1)%len(list)]} })...)
		}
	}
	return lists
}

func exactGcd(a, c int) int {
	return int(new(big.Int).GCD(nil, nil, big.NewInt(int64(a)), big.NewInt(int64(c))).Int64())
}

// sharedDivisor tries all divisors, the greatest one first.
func sharedDivisor(a, c int) int {
	for d := 200; d > 0; d-- {
		if a%d == 0 && c%d == 0 && (a != 0 || c != 0) {
			return d
		}
	}
	return 0
}

func areModuli(list []int) bool {
	if len(list) < 1 || len(list) > 6 {
		return false
	}
	for i, m := range list {
		if m < 2 || m > 1000 {
			return false
		}
		for _, other := range list[:i] {
			if exactGcd(m, other) != 1 {
				return false
			}
		}
	}
	return productOf(list).Cmp(big.NewInt(maxNumber)) <= 0
}

// residueList returns the residues of an integer that may be negative or beyond the range.
func residueList(n *big.Int, moduli []int) []int {
	list := make([]int, len(moduli))
	for k, m := range moduli {
		list[k] = int(new(big.Int).Mod(n, big.NewInt(int64(m))).Int64())
	}
	return list
}

// turn changes residues to those of the next number, like wheels that all turn at once.
func turn(list, moduli []int) {
	for k := range list {
		if list[k]++; list[k] == moduli[k] {
			list[k] = 0
		}
	}
}

func TestGcdTable(t *testing.T) {
	cases := []struct{ a, c, divisor int }{
		{0, 0, 0}, {0, 1, 1}, {0, -1, 1}, {0, 7, 7}, {0, -7, 7}, {1, 1, 1}, {1, -1, 1}, {-1, -1, 1}, {7, 7, 7}, {7, -7, 7}, {-7, -7, 7}, {12, 18, 6}, {12, -18, 6}, {-12, -18, 6}, {12, 35, 1}, {-12, 35, 1}, {8, 2, 2}, {-8, 2, 2}, {97, 89, 1}, {1, 1000, 1}, {1071, 462, 21}, {123456, 7890, 6}, {987654321, 123456789, 9}, {1 << 32, 1 << 20, 1 << 20}, {1 << 39, -1 << 38, 1 << 38},
		{maxNumber, 0, maxNumber}, {-maxNumber, 0, maxNumber}, {maxNumber, maxNumber, maxNumber}, {maxNumber, -maxNumber, maxNumber}, {-maxNumber, -maxNumber, maxNumber}, {maxNumber, 1, 1}, {-maxNumber, -1, 1}, {maxNumber, maxNumber - 1, 1}, {-maxNumber, maxNumber - 1, 1}, {maxNumber, maxNumber / 2, maxNumber / 2}, {maxNumber, 1 << 39, 4096}, {maxNumber, 244140625, 244140625}, {999999999999, 999999, 999999}, {999999999989, maxNumber, 1}, {591286729879, 365435296162, 1}, {-591286729879, 956722026041, 1},
		{maxNumber + 1, 0, 0}, {maxNumber + 1, 1, 0}, {maxNumber + 1, maxNumber, 0}, {maxNumber + 1, maxNumber + 1, 0}, {-maxNumber - 1, 0, 0}, {-maxNumber - 1, 1, 0}, {-maxNumber - 1, -maxNumber, 0}, {maxNumber + 1, -maxNumber - 1, 0}, {2 * maxNumber, maxNumber, 0}, {math.MaxInt64, 1, 0}, {math.MinInt64, 1, 0}, {math.MinInt64, 0, 0}, {math.MinInt64, -1, 0}, {math.MinInt64, math.MinInt64, 0}, {math.MaxInt64, math.MaxInt64, 0}, {math.MinInt64, math.MaxInt64, 0}, {math.MinInt64, 2, 0}, {math.MaxInt64, 7, 0}, {1 << 62, 1 << 32, 0},
	}
	for _, c := range cases {
		if got, other := impl.Gcd(c.a, c.c), impl.Gcd(c.c, c.a); got != c.divisor || other != c.divisor {
			t.Errorf("Gcd(%d, %d) = %d, and the other way round %d, want %d", c.a, c.c, got, other, c.divisor)
		}
	}
}

func TestGcdOfSmallIntegers(t *testing.T) {
	for a := -200; a <= 200; a++ {
		for c := -200; c <= 200; c++ {
			if got, want := impl.Gcd(a, c), sharedDivisor(a, c); got != want {
				t.Errorf("Gcd(%d, %d) = %d, want %d", a, c, got, want)
			}
		}
	}
}

func TestGcdOfIntegers(t *testing.T) {
	list := someIntegers()
	for i, a := range list {
		for j := i % 17; j < len(list); j += 17 {
			if got, want := impl.Gcd(a, list[j]), exactGcd(a, list[j]); got != want {
				t.Errorf("Gcd(%d, %d) = %d, want %d", a, list[j], got, want)
			}
		}
		for _, other := range []int{0, 1, -1, a, -a, a + 1, a / 2, maxNumber, -maxNumber} {
			if other > maxNumber {
				continue
			}
			if got, want := impl.Gcd(a, other), exactGcd(a, other); got != want {
				t.Errorf("Gcd(%d, %d) = %d, want %d", a, other, got, want)
			}
		}
		for _, beyond := range integersBeyond() {
			if got, other := impl.Gcd(a, beyond), impl.Gcd(beyond, a); got != 0 || other != 0 {
				t.Errorf("Gcd(%d, %d) = %d, and the other way round %d", a, beyond, got, other)
			}
		}
	}
	for _, a := range integersBeyond() {
		for _, c := range integersBeyond() {
			if got := impl.Gcd(a, c); got != 0 {
				t.Errorf("Gcd(%d, %d) = %d", a, c, got)
			}
		}
	}
}

func TestInverseTable(t *testing.T) {
	cases := []struct{ a, m, inverse int }{
		{0, 2, -1}, {1, 2, 1}, {2, 2, -1}, {3, 2, -1}, {-1, 2, -1}, {1, 3, 1}, {2, 3, 2}, {3, 3, -1}, {0, 7, -1}, {1, 7, 1}, {2, 7, 4}, {3, 7, 5}, {4, 7, 2}, {5, 7, 3}, {6, 7, 6}, {7, 7, -1}, {8, 7, -1}, {10, 7, -1}, {-1, 7, -1}, {-4, 7, -1}, {2, 4, -1}, {3, 4, 3}, {6, 9, -1}, {4, 9, 7}, {10, 17, 12}, {17, 3120, 2753}, {610, 987, 610}, {377, 987, 377},
		{0, 1000000, -1}, {1, 1000000, 1}, {2, 1000000, -1}, {3, 1000000, 666667}, {5, 1000000, -1}, {500000, 1000000, -1}, {999999, 1000000, 999999}, {1000000, 1000000, -1}, {1000001, 1000000, -1}, {123457, 1000000, 470593}, {999998, 1000000, -1},
		{7, 999999, -1}, {999998, 999999, 999998}, {2, 999983, 499992}, {999982, 999983, 999982}, {123456, 999983, 179243},
		{0, 1, -1}, {1, 1, -1}, {0, 0, -1}, {1, 0, -1}, {0, -1, -1}, {1, -7, -1}, {3, -7, -1}, {-3, -7, -1}, {1, 1000001, -1}, {3, 1000001, -1}, {1000000, 1000001, -1}, {3, 1<<32 + 7, -1}, {3 + 1<<32, 7, -1}, {1, math.MaxInt64, -1}, {1, math.MinInt64, -1}, {math.MaxInt64, 7, -1}, {math.MinInt64, 7, -1}, {math.MinInt64 + 1, 7, -1}, {math.MinInt64, math.MinInt64, -1}, {math.MaxInt64, math.MaxInt64, -1}, {math.MinInt64, math.MaxInt64, -1}, {math.MaxInt64 - 1, math.MaxInt64, -1}, {0, math.MinInt64, -1},
	}
	for _, c := range cases {
		if got := impl.InverseOf(c.a, c.m); got != c.inverse {
			t.Errorf("InverseOf(%d, %d) = %d, want %d", c.a, c.m, got, c.inverse)
		}
	}
}

func TestInversesModuloSmallNumbers(t *testing.T) {
	for m := -3; m <= 130; m++ {
		for a := -m - 3; a <= 2*m+3; a++ {
			want := -1
			for x := 0; x < m && m >= 2 && a >= 0 && a < m; x++ {
				if a*x%m == 1 {
					want = x
				}
			}
			if got := impl.InverseOf(a, m); got != want {
				t.Errorf("InverseOf(%d, %d) = %d, want %d", a, m, got, want)
			}
		}
	}
}

func TestInversesModuloGreatNumbers(t *testing.T) {
	for _, m := range []int{131, 256, 360, 625, 997, 1000, 1024, 2310, 46368, 65536, 65537, 510510, 524288, 531441, 832040, 999982, 999983, 999999, 1000000} {
		for a := 0; a < m; a += 1 + m/3000 {
			for _, number := range []int{a, m - 1 - a} {
				want := -1
				if exact := new(big.Int).ModInverse(big.NewInt(int64(number)), big.NewInt(int64(m))); exact != nil {
					want = int(exact.Int64())
				}
				if got := impl.InverseOf(number, m); got != want {
					t.Errorf("InverseOf(%d, %d) = %d, want %d", number, m, got, want)
				}
			}
		}
		for _, a := range []int{math.MinInt64, math.MinInt64 + 1, -m - 1, -m, -m + 1, -2, -1, m, m + 1, m + 2, 2*m + 1, m * m, 1<<32 + 1, math.MaxInt64 - 1, math.MaxInt64} {
			if got := impl.InverseOf(a, m); got != -1 {
				t.Errorf("InverseOf(%d, %d) = %d", a, m, got)
			}
		}
	}
	for _, m := range []int{math.MinInt64, math.MinInt64 + 1, -1000000, -7, -2, -1, 0, 1, 1000001, 1000002, 1000003, 2000003, maxNumber, 1<<32 + 2, 1<<32 + 7, math.MaxInt64 - 1, math.MaxInt64} {
		for _, a := range []int{math.MinInt64, -3, -1, 0, 1, 2, 3, 1000000, m - 1, m, math.MaxInt64} {
			if got := impl.InverseOf(a, m); got != -1 {
				t.Errorf("InverseOf(%d, %d) = %d", a, m, got)
			}
		}
	}
}

func checkModuli(t *testing.T, list []int, good bool) {
	t.Helper()
	if got := impl.ModuliOk(list); got != good {
		t.Errorf("ModuliOk(%v) = %v", list, got)
	}
	zeros := make([]int, len(list))
	if got := impl.ResiduesOk(zeros, list); got != good {
		t.Errorf("ResiduesOk(%v, %v) = %v", zeros, list, got)
	}
}

func TestModuli(t *testing.T) {
	for _, list := range someModuli() {
		if !areModuli(list) {
			t.Errorf("%v are no moduli", list)
		}
		checkModuli(t, list, true)
	}
	for _, list := range noModuli() {
		if areModuli(list) {
			t.Errorf("%v are moduli", list)
		}
		checkModuli(t, list, false)
	}
	if below, beyond := productOf(moduliBelow), productOf(moduliBeyond); below.Cmp(big.NewInt(999999999860)) != 0 || beyond.Cmp(big.NewInt(1000000000212)) != 0 {
		t.Errorf("the products are %v and %v", below, beyond)
	}
}

func TestModuliOfAllShortLists(t *testing.T) {
	for _, list := range listsOver([]int{math.MinInt64, -1, 0, 1, 2, 3, 4, 5, 6, 9, 15, 35, 999, 1000, 1001, math.MaxInt64}, 3) {
		checkModuli(t, list, areModuli(list))
	}
	for _, list := range listsOver([]int{2, 3, 4, 5, 6, 7}, 6) {
		checkModuli(t, list, areModuli(list))
	}
	for n := -3; n <= 1100; n++ {
		checkModuli(t, []int{n}, n >= 2 && n <= 1000)
		for _, other := range []int{2, 3, 30, 210, 512, 625, 729, 997, 998, 999, 1000} {
			good := n >= 2 && n <= 1000 && exactGcd(n, other) == 1
			checkModuli(t, []int{n, other}, good)
			checkModuli(t, []int{other, n}, good)
		}
		for _, others := range [][]int{{997, 991, 983, 977}, {997, 991, 983, 53, 19}, {743, 347, 865, 236}} {
			checkModuli(t, append(slices.Clone(others), n), areModuli(append(slices.Clone(others), n)))
			checkModuli(t, append([]int{n}, others...), areModuli(append([]int{n}, others...)))
		}
	}
}

// The greatest divisor that two moduli may share is found wherever they are.
func TestModuliWithOneCommonDivisor(t *testing.T) {
	for i := range firstPrimes {
		for j := range firstPrimes {
			for _, p := range []int{2, 3, 13, 17, 37} {
				list := slices.Clone(firstPrimes)
				list[i] *= p
				checkModuli(t, list, areModuli(list))
				list[j] *= p
				checkModuli(t, list, areModuli(list))
			}
		}
	}
}

// checkResidues asks every function for one number and its residues.
func checkResidues(t *testing.T, n int, list, moduli []int) {
	t.Helper()
	if got := impl.ResiduesOf(n, moduli); !slices.Equal(got, list) {
		t.Errorf("ResiduesOf(%d, %v) = %v, want %v", n, moduli, got, list)
	}
	if !impl.ResiduesOk(list, moduli) {
		t.Errorf("ResiduesOk(%v, %v) is false", list, moduli)
	}
	if got := impl.FromResidues(list, moduli); got != n {
		t.Errorf("FromResidues(%v, %v) = %d, want %d", list, moduli, got, n)
	}
	if got, want := impl.GarnerDigits(list, moduli), mixedList(n, moduli); !slices.Equal(got, want) {
		t.Errorf("GarnerDigits(%v, %v) = %v, want %v", list, moduli, got, want)
	}
	for _, m := range []int{2, 3, 64, 60, 625, 997, 1000, moduli[0], moduli[len(moduli)-1], 2 + n%999} {
		if got := impl.ExtendResidues(list, moduli, m); got != residueList(big.NewInt(int64(n)), []int{m})[0] {
			t.Errorf("ExtendResidues(%v, %v, %d) = %d for %d", list, moduli, m, got, n)
		}
	}
	if got := impl.ResiduesCompare(list, list, moduli); got != 0 {
		t.Errorf("ResiduesCompare(%v, %v, %v) = %d", list, list, moduli, got)
	}
}

func TestResiduesOfAllNumbers(t *testing.T) {
	for _, moduli := range tinyModuli() {
		list := make([]int, len(moduli))
		for n := range rangeOf(moduli) {
			checkResidues(t, n, list, moduli)
			turn(list, moduli)
		}
		// The wheels are all at 0 again.
		if sumOf(list) != 0 {
			t.Errorf("behind the last number modulo %v come %v", moduli, list)
		}
	}
}

func TestResiduesOfNumbers(t *testing.T) {
	for _, moduli := range someModuli() {
		for _, n := range mixedNumbers(moduli) {
			checkResidues(t, n, residueList(big.NewInt(int64(n)), moduli), moduli)
		}
		greatest := make([]int, len(moduli))
		for k, m := range moduli {
			greatest[k] = m - 1
		}
		checkResidues(t, 0, make([]int, len(moduli)), moduli)
		checkResidues(t, 1, slices.Repeat([]int{1}, len(moduli)), moduli)
		checkResidues(t, rangeOf(moduli)-1, greatest, moduli)
	}
}

func TestNoResidues(t *testing.T) {
	for _, moduli := range someModuli() {
		size := rangeOf(moduli)
		for _, n := range []int{math.MinInt64, math.MinInt64 + 1, -maxNumber, -size - 1, -size, -size + 1, -2, -1, size, size + 1, 2*size - 1, 2 * size, maxNumber, maxNumber + 1, size + 1<<32, math.MaxInt64 - 1, math.MaxInt64} {
			if got := impl.ResiduesOf(n, moduli); len(got) != 0 {
				t.Errorf("ResiduesOf(%d, %v) = %v", n, moduli, got)
			}
		}
	}
	for _, moduli := range noModuli() {
		for _, n := range []int{math.MinInt64, -1, 0, 1, 2, 3, 999, 1000, 1001, maxNumber, math.MaxInt64} {
			if got := impl.ResiduesOf(n, moduli); len(got) != 0 {
				t.Errorf("ResiduesOf(%d, %v) = %v", n, moduli, got)
			}
		}
	}
}

// Each list of residues is that of one number below the range.
func TestEachListOfResiduesIsOneNumber(t *testing.T) {
	for _, moduli := range [][]int{{2}, {4}, {2, 3}, {3, 2}, {3, 4}, {4, 3}, {2, 3, 5}, {5, 3, 2}, {3, 4, 5}} {
		seen := make([]bool, rangeOf(moduli))
		count := 0
		for _, list := range listsOver(upTo(-1, 5), 4) {
			good := len(list) == len(moduli)
			for k := range list {
				good = good && list[k] >= 0 && list[k] < moduli[k]
			}
			n := impl.FromResidues(list, moduli)
			if ok := impl.ResiduesOk(list, moduli); ok != good || ok != (n >= 0) {
				t.Errorf("ResiduesOk(%v, %v) = %v, and the number is %d", list, moduli, ok, n)
			}
			if !good {
				continue
			}
			count++
			if n < 0 || n >= len(seen) || seen[n] || !slices.Equal(impl.ResiduesOf(n, moduli), list) {
				t.Fatalf("FromResidues(%v, %v) = %d", list, moduli, n)
			}
			seen[n] = true
		}
		if count != len(seen) {
			t.Errorf("%d lists are residues modulo %v", count, moduli)
		}
	}
}

func TestResiduesTable(t *testing.T) {
	cases := []struct {
		n                    int
		moduli, list, digits []int
	}{
		{0, []int{2}, []int{0}, []int{0}}, {1, []int{2}, []int{1}, []int{1}}, {999, []int{1000}, []int{999}, []int{999}}, {14, []int{3, 5}, []int{2, 4}, []int{2, 4}}, {14, []int{5, 3}, []int{4, 2}, []int{4, 2}}, {7, []int{3, 5}, []int{1, 2}, []int{1, 2}}, {10, []int{3, 5}, []int{1, 0}, []int{1, 3}}, {9, []int{3, 5}, []int{0, 4}, []int{0, 3}}, {0, []int{3, 5}, []int{0, 0}, []int{0, 0}},
		{23, []int{3, 5, 7}, []int{2, 3, 2}, []int{2, 2, 1}}, {23, []int{7, 5, 3}, []int{2, 3, 2}, []int{2, 3, 0}}, {100, []int{3, 5, 7}, []int{1, 0, 2}, []int{1, 3, 6}}, {104, []int{3, 5, 7}, []int{2, 4, 6}, []int{2, 4, 6}}, {12345, firstPrimes, []int{1, 0, 0, 4, 3, 8}, []int{1, 1, 2, 5, 3, 5}}, {12345, backward(firstPrimes), []int{8, 3, 4, 0, 0, 1}, []int{8, 3, 2, 2, 2, 0}}, {30029, firstPrimes, []int{1, 2, 4, 6, 10, 12}, []int{1, 2, 4, 6, 10, 12}},
		{999, []int{1000, 999}, []int{999, 0}, []int{999, 0}}, {1000, []int{1000, 999}, []int{0, 1}, []int{0, 1}}, {1000, []int{999, 1000}, []int{1, 0}, []int{1, 1}}, {998000, []int{1000, 999}, []int{0, 998}, []int{0, 998}}, {987654321, []int{1000, 999, 997}, []int{321, 963, 199}, []int{321, 642, 988}}, {500000000000, fourGreatest, []int{0, 500, 539, 803}, []int{0, 500, 6, 502}}, {987038972999, fourGreatest, []int{999, 998, 996, 990}, []int{999, 998, 996, 990}},
		{123456789012, moduliBelow, []int{401, 221, 497, 0, 21, 9}, []int{401, 315, 501, 1, 20, 2}}, {123456789012, fiveBelow, []int{401, 221, 497, 80, 9}, []int{401, 315, 501, 81, 2}}, {999999999859, moduliBelow, []int{742, 346, 864, 3, 58, 18}, []int{742, 346, 864, 3, 58, 18}}, {999999999859, fiveBelow, []int{742, 346, 864, 235, 18}, []int{742, 346, 864, 235, 18}},
	}
	for _, c := range cases {
		if got := impl.ResiduesOf(c.n, c.moduli); !slices.Equal(got, c.list) {
			t.Errorf("ResiduesOf(%d, %v) = %v, want %v", c.n, c.moduli, got, c.list)
		}
		if got := impl.FromResidues(c.list, c.moduli); got != c.n {
			t.Errorf("FromResidues(%v, %v) = %d, want %d", c.list, c.moduli, got, c.n)
		}
		if got := impl.GarnerDigits(c.list, c.moduli); !slices.Equal(got, c.digits) {
			t.Errorf("GarnerDigits(%v, %v) = %v, want %v", c.list, c.moduli, got, c.digits)
		}
	}
}

// With moduli up to 60, these are the mixed digits of chapter 8.
func TestGarnerDigitsAgreeWithMixedDigits(t *testing.T) {
	count := 0
	for _, moduli := range someModuli() {
		if !areRadices(moduli) {
			continue
		}
		count++
		for _, n := range mixedNumbers(moduli) {
			got := impl.GarnerDigits(impl.ResiduesOf(n, moduli), moduli)
			if !slices.Equal(got, impl.MixedDigits(n, moduli)) || impl.MixedValue(got, moduli) != n {
				t.Errorf("the digits of %d modulo %v are %v", n, moduli, got)
			}
		}
	}
	if count < 10 {
		t.Errorf("only %d moduli are radices", count)
	}
}

// checkResiduePair adds, multiplies and compares two numbers by their residues.
func checkResiduePair(t *testing.T, m, n int, moduli []int) {
	t.Helper()
	first, second := big.NewInt(int64(m)), big.NewInt(int64(n))
	a, c := residueList(first, moduli), residueList(second, moduli)
	sum, product := new(big.Int).Add(first, second), new(big.Int).Mul(first, second)
	if got := impl.ResiduesAdd(a, c, moduli); !slices.Equal(got, residueList(sum, moduli)) {
		t.Errorf("ResiduesAdd(%v, %v, %v) = %v for %d and %d", a, c, moduli, got, m, n)
	}
	if got := impl.ResiduesTimes(a, c, moduli); !slices.Equal(got, residueList(product, moduli)) {
		t.Errorf("ResiduesTimes(%v, %v, %v) = %v for %d and %d", a, c, moduli, got, m, n)
	}
	size := productOf(moduli)
	if got := impl.FromResidues(impl.ResiduesAdd(a, c, moduli), moduli); big.NewInt(int64(got)).Cmp(sum.Mod(sum, size)) != 0 {
		t.Errorf("the sum of %d and %d modulo %v is %d", m, n, moduli, got)
	}
	if got := impl.FromResidues(impl.ResiduesTimes(a, c, moduli), moduli); big.NewInt(int64(got)).Cmp(product.Mod(product, size)) != 0 {
		t.Errorf("the product of %d and %d modulo %v is %d", m, n, moduli, got)
	}
	if got := impl.ResiduesCompare(a, c, moduli); got != cmp.Compare(m, n) {
		t.Errorf("ResiduesCompare(%v, %v, %v) = %d for %d and %d", a, c, moduli, got, m, n)
	}
}

func TestResiduesOfAllPairs(t *testing.T) {
	for _, moduli := range [][]int{{2}, {3}, {4}, {13}, {2, 3}, {3, 2}, {3, 5}, {5, 3}, {8, 3}, {2, 3, 5}, {5, 3, 2}} {
		for m := range rangeOf(moduli) {
			for n := range rangeOf(moduli) {
				checkResiduePair(t, m, n, moduli)
			}
		}
	}
}

func TestResiduesOfPairs(t *testing.T) {
	for _, moduli := range someModuli() {
		last := rangeOf(moduli) - 1
		list := mixedNumbers(moduli)
		for i, n := range list {
			for _, m := range []int{0, 1, n, last, last - n, last / 2, list[(i*7+3)%len(list)], list[(i*5+2)%len(list)]} {
				checkResiduePair(t, m, n, moduli)
				checkResiduePair(t, n, m, moduli)
			}
			if n > 0 {
				checkResiduePair(t, n-1, n, moduli)
				checkResiduePair(t, n, n-1, moduli)
			}
		}
	}
}

func TestResidueSumsTable(t *testing.T) {
	greatest := []int{742, 346, 864, 3, 58, 18}
	cases := []struct {
		a, c, moduli, sum, product []int
		order                      int
	}{
		{[]int{2, 4}, []int{2, 2}, []int{3, 5}, []int{1, 1}, []int{1, 3}, 1}, {[]int{0, 0}, []int{0, 0}, []int{3, 5}, []int{0, 0}, []int{0, 0}, 0}, {[]int{2, 4}, []int{1, 1}, []int{3, 5}, []int{0, 0}, []int{2, 4}, 1}, {[]int{2, 4}, []int{2, 4}, []int{3, 5}, []int{1, 3}, []int{1, 1}, 0}, {[]int{0, 1}, []int{2, 0}, []int{3, 5}, []int{2, 1}, []int{0, 0}, 1}, {[]int{0, 3}, []int{1, 0}, []int{3, 5}, []int{1, 3}, []int{0, 0}, -1}, {[]int{0, 0}, []int{2, 4}, []int{3, 5}, []int{2, 4}, []int{0, 0}, -1},
		{[]int{1}, []int{1}, []int{2}, []int{0}, []int{1}, 0}, {[]int{0}, []int{1}, []int{2}, []int{1}, []int{0}, -1}, {[]int{999}, []int{999}, []int{1000}, []int{998}, []int{1}, 0}, {[]int{999}, []int{998}, []int{1000}, []int{997}, []int{2}, 1}, {[]int{500}, []int{500}, []int{1000}, []int{0}, []int{0}, 0}, {[]int{499}, []int{500}, []int{1000}, []int{999}, []int{500}, -1},
		// 999 and 1000; the greater one has lesser residues.
		{[]int{999, 0}, []int{0, 1}, []int{1000, 999}, []int{999, 1}, []int{0, 0}, -1}, {[]int{999, 998}, []int{0, 0}, []int{1000, 999}, []int{999, 998}, []int{0, 0}, 1},
		{greatest, greatest, moduliBelow, []int{741, 345, 863, 2, 57, 17}, []int{1, 1, 1, 1, 1, 1}, 0}, {greatest, []int{1, 1, 1, 1, 1, 1}, moduliBelow, make([]int, 6), greatest, 1}, {make([]int, 6), greatest, moduliBelow, greatest, make([]int, 6), -1}, {make([]int, 6), make([]int, 6), moduliBelow, make([]int, 6), make([]int, 6), 0}, {make([]int, 6), []int{1, 1, 1, 1, 1, 1}, moduliBelow, []int{1, 1, 1, 1, 1, 1}, make([]int, 6), -1},
	}
	for _, c := range cases {
		for i, pair := range [][2][]int{{c.a, c.c}, {c.c, c.a}} {
			if got := impl.ResiduesAdd(pair[0], pair[1], c.moduli); !slices.Equal(got, c.sum) {
				t.Errorf("ResiduesAdd(%v, %v, %v) = %v, want %v", pair[0], pair[1], c.moduli, got, c.sum)
			}
			if got := impl.ResiduesTimes(pair[0], pair[1], c.moduli); !slices.Equal(got, c.product) {
				t.Errorf("ResiduesTimes(%v, %v, %v) = %v, want %v", pair[0], pair[1], c.moduli, got, c.product)
			}
			if got := impl.ResiduesCompare(pair[0], pair[1], c.moduli); got != c.order*(1-2*i) {
				t.Errorf("ResiduesCompare(%v, %v, %v) = %d, want %d", pair[0], pair[1], c.moduli, got, c.order*(1-2*i))
			}
		}
	}
}

func TestExtendedResiduesTable(t *testing.T) {
	cases := []struct {
		list, moduli []int
		m, want      int
	}{
		{[]int{2, 4}, []int{3, 5}, 4, 2}, {[]int{2, 4}, []int{3, 5}, 1, -1}, {[]int{2, 4}, []int{3, 5}, 0, -1}, {[]int{2, 4}, []int{3, 5}, -1, -1}, {[]int{2, 4}, []int{3, 5}, -4, -1}, {[]int{2, 4}, []int{3, 5}, 2, 0}, {[]int{2, 4}, []int{3, 5}, 3, 2}, {[]int{2, 4}, []int{3, 5}, 5, 4}, {[]int{2, 4}, []int{3, 5}, 14, 0}, {[]int{2, 4}, []int{3, 5}, 15, 14}, {[]int{2, 4}, []int{3, 5}, 6, 2}, {[]int{2, 4}, []int{3, 5}, 1000, 14}, {[]int{2, 4}, []int{3, 5}, 1001, -1}, {[]int{2, 4}, []int{3, 5}, 1002, -1}, {[]int{0, 0}, []int{3, 5}, 2, 0}, {[]int{0, 0}, []int{3, 5}, 1000, 0}, {[]int{0, 0}, []int{3, 5}, 1001, -1}, {[]int{0, 0}, []int{3, 5}, 1, -1},
		{[]int{2, 4}, []int{3, 5}, 1<<32 + 4, -1}, {[]int{2, 4}, []int{3, 5}, math.MinInt64, -1}, {[]int{2, 4}, []int{3, 5}, math.MaxInt64, -1}, {[]int{3, 4}, []int{3, 5}, 4, -1}, {[]int{2, -1}, []int{3, 5}, 4, -1}, {[]int{2}, []int{3, 5}, 4, -1}, {[]int{2, 4, 0}, []int{3, 5}, 4, -1}, {nil, []int{3, 5}, 4, -1}, {nil, nil, 4, -1}, {[]int{2, 4}, nil, 4, -1}, {[]int{2, 4}, []int{4, 6}, 5, -1}, {[]int{0}, []int{1}, 5, -1}, {[]int{0}, []int{1001}, 5, -1}, {[]int{1}, []int{2}, 1000, 1}, {[]int{999}, []int{1000}, 1000, 999}, {[]int{999}, []int{1000}, 999, 0}, {[]int{999}, []int{1000}, 998, 1},
		{[]int{401, 221, 497, 0, 21, 9}, moduliBelow, 1000, 12}, {[]int{401, 221, 497, 0, 21, 9}, moduliBelow, 2, 0}, {[]int{401, 221, 497, 0, 21, 9}, moduliBelow, 999, 381}, {[]int{401, 221, 497, 0, 21, 9}, moduliBelow, 743, 401}, {[]int{742, 346, 864, 3, 58, 18}, moduliBelow, 1000, 859}, {[]int{742, 346, 864, 3, 58, 18}, moduliBelow, 1001, -1}, {[]int{742, 346, 864, 3, 58, 18}, moduliBelow, 2, 1}, {[]int{742, 346, 864, 3, 58, 18}, moduliBelow, 236, 235}, {make([]int, 6), moduliBelow, 997, 0},
	}
	for _, c := range cases {
		if got := impl.ExtendResidues(c.list, c.moduli, c.m); got != c.want {
			t.Errorf("ExtendResidues(%v, %v, %d) = %d, want %d", c.list, c.moduli, c.m, got, c.want)
		}
	}
}

func TestExtendedResiduesForEachModulus(t *testing.T) {
	for _, moduli := range [][]int{{2}, {1000}, {3, 5}, firstPrimes, moduliBelow, backward(moduliBelow), fourGreatest} {
		for _, n := range []int{0, 1, rangeOf(moduli) / 3, rangeOf(moduli) - 1} {
			list := residueList(big.NewInt(int64(n)), moduli)
			for m := -1001; m <= 2100; m++ {
				want := -1
				if m >= 2 && m <= 1000 {
					want = n - n/m*m
				}
				if got := impl.ExtendResidues(list, moduli, m); got != want {
					t.Errorf("ExtendResidues(%v, %v, %d) = %d, want %d", list, moduli, m, got, want)
				}
			}
			for _, m := range []int{math.MinInt64, math.MinInt64 + 1, -1 << 32, maxNumber, 1 << 32, 1<<32 + 2, 1<<32 + 1000, math.MaxInt64 - 1, math.MaxInt64} {
				if got := impl.ExtendResidues(list, moduli, m); got != -1 {
					t.Errorf("ExtendResidues(%v, %v, %d) = %d", list, moduli, m, got)
				}
			}
		}
	}
}

// checkResiduesRefused asks every function for a and c, of which one is wrong, or for wrong moduli.
func checkResiduesRefused(t *testing.T, a, c, moduli []int) {
	t.Helper()
	if got := impl.ResiduesAdd(a, c, moduli); len(got) != 0 {
		t.Errorf("ResiduesAdd(%v, %v, %v) = %v", a, c, moduli, got)
	}
	if got := impl.ResiduesTimes(a, c, moduli); len(got) != 0 {
		t.Errorf("ResiduesTimes(%v, %v, %v) = %v", a, c, moduli, got)
	}
	if got := impl.ResiduesCompare(a, c, moduli); got != -2 {
		t.Errorf("ResiduesCompare(%v, %v, %v) = %d", a, c, moduli, got)
	}
}

func checkOneRefusedResidues(t *testing.T, list, moduli []int) {
	t.Helper()
	if impl.ResiduesOk(list, moduli) {
		t.Errorf("ResiduesOk(%v, %v) is true", list, moduli)
	}
	if got := impl.FromResidues(list, moduli); got != -1 {
		t.Errorf("FromResidues(%v, %v) = %d", list, moduli, got)
	}
	if got := impl.GarnerDigits(list, moduli); len(got) != 0 {
		t.Errorf("GarnerDigits(%v, %v) = %v", list, moduli, got)
	}
	for _, m := range []int{math.MinInt64, 0, 1, 2, 7, 1000, 1001, math.MaxInt64} {
		if got := impl.ExtendResidues(list, moduli, m); got != -1 {
			t.Errorf("ExtendResidues(%v, %v, %d) = %d", list, moduli, m, got)
		}
	}
}

func TestWrongResidues(t *testing.T) {
	for _, moduli := range someModuli() {
		for _, wrong := range wrongMixedLists(moduli) {
			for _, right := range [][]int{make([]int, len(moduli)), slices.Repeat([]int{1}, len(moduli))} {
				checkResiduesRefused(t, wrong, right, moduli)
				checkResiduesRefused(t, right, wrong, moduli)
			}
			checkResiduesRefused(t, wrong, wrong, moduli)
			checkOneRefusedResidues(t, wrong, moduli)
		}
	}
}

func TestResiduesOfWrongModuli(t *testing.T) {
	for _, moduli := range noModuli() {
		zeros, ones := make([]int, len(moduli)), slices.Repeat([]int{1}, len(moduli))
		for _, a := range [][]int{nil, {0}, {1}, zeros, ones} {
			for _, c := range [][]int{nil, {0}, zeros, ones} {
				checkResiduesRefused(t, a, c, moduli)
			}
			checkOneRefusedResidues(t, a, moduli)
		}
	}
}

// manyResidues asks for sums and products of two numbers again and again, and compares them with the first answers.
func manyResidues(t *testing.T, m, n int, moduli []int, rounds int) {
	sum, product := big.NewInt(int64(m)), big.NewInt(int64(m))
	sum.Add(sum, big.NewInt(int64(n)))
	product.Mul(product, big.NewInt(int64(n)))
	for range rounds {
		a, c := impl.ResiduesOf(m, moduli), impl.ResiduesOf(n, moduli)
		if got := impl.ResiduesAdd(a, c, moduli); !slices.Equal(got, residueList(sum, moduli)) {
			t.Errorf("ResiduesAdd(%v, %v, %v) = %v", a, c, moduli, got)
		}
		if got := impl.ResiduesTimes(a, c, moduli); !slices.Equal(got, residueList(product, moduli)) {
			t.Errorf("ResiduesTimes(%v, %v, %v) = %v", a, c, moduli, got)
		}
	}
}

// Whether one worker can run at a time, or many at once, and whether other calls are under way, the results are the same.
func TestResiduesDoNotDependOnTheOrderOfWorkers(t *testing.T) {
	defer runtime.GOMAXPROCS(runtime.GOMAXPROCS(0))
	for _, most := range []int{1, 2, 3, 8, 32} {
		runtime.GOMAXPROCS(most)
		var callers sync.WaitGroup
		for i := range 16 {
			callers.Go(func() { manyResidues(t, 123456789012+i, 987654321098-i, moduliBelow, 100) })
			callers.Go(func() { manyResidues(t, 12345+i, 30029-i, firstPrimes, 100) })
		}
		callers.Wait()
		manyResidues(t, 999999999859, 999999999858, moduliBelow, 500)
	}
}

// Once a call has returned, no worker reads the lists that it was given or writes to the one that it has returned, so that all of them may be changed.
func TestResidueWorkersHaveEnded(t *testing.T) {
	sum, product := residueList(big.NewInt(1111), firstPrimes), residueList(big.NewInt(123*988), firstPrimes)
	for range 2000 {
		a, c, moduli := residueList(big.NewInt(123), firstPrimes), residueList(big.NewInt(988), firstPrimes), slices.Clone(firstPrimes)
		first := impl.ResiduesAdd(a, c, moduli)
		second := impl.ResiduesTimes(a, c, moduli)
		third := impl.ResiduesOf(988, moduli)
		if !slices.Equal(first, sum) || !slices.Equal(second, product) || !slices.Equal(third, c) {
			t.Errorf("the residues are %v, %v and %v", first, second, third)
		}
		lists := [][]int{a, c, moduli, first, second, third}
		for _, list := range lists {
			spoil(list)
		}
		runtime.Gosched()
		for _, list := range lists {
			if slices.ContainsFunc(list, func(n int) bool { return n != -7 }) {
				t.Errorf("a spoiled list became %v", list)
			}
		}
	}
}

// residueCalls are calls with residues and moduli for checkMemory.
func residueCalls() map[string]func(a, c []int) [][]int {
	yes := map[bool]int{true: 1}
	return map[string]func(a, c []int) [][]int{
		"ResiduesOf": func(a, c []int) [][]int {
			return [][]int{impl.ResiduesOf(4, c), impl.ResiduesOf(0, c), impl.ResiduesOf(4, c), impl.ResiduesOf(1, a)}
		},
		"ResiduesAdd": func(a, c []int) [][]int {
			zeros := make([]int, len(a))
			return [][]int{impl.ResiduesAdd(a, a, c), impl.ResiduesAdd(a, zeros, c), impl.ResiduesAdd(zeros, a, c), impl.ResiduesAdd(a, c, []int{11, 10, 9}), impl.ResiduesAdd(c, c, c)}
		},
		"ResiduesTimes": func(a, c []int) [][]int {
			ones := slices.Repeat([]int{1}, len(a))
			return [][]int{impl.ResiduesTimes(a, a, c), impl.ResiduesTimes(a, ones, c), impl.ResiduesTimes(ones, a, c), impl.ResiduesTimes(a, c, []int{11, 10, 9}), impl.ResiduesTimes(c, c, c)}
		},
		"GarnerDigits": func(a, c []int) [][]int {
			return [][]int{impl.GarnerDigits(a, c), impl.GarnerDigits(make([]int, len(c)), c), impl.GarnerDigits(a, c), impl.GarnerDigits(c, a)}
		},
		"the answers for residues and moduli": func(a, c []int) [][]int {
			return [][]int{{yes[impl.ModuliOk(a)], yes[impl.ModuliOk(c)], yes[impl.ResiduesOk(a, c)], yes[impl.ResiduesOk(c, a)]}, {impl.FromResidues(a, c), impl.FromResidues(c, a), impl.ResiduesCompare(a, a, c), impl.ResiduesCompare(a, make([]int, len(a)), c), impl.ResiduesCompare(a, c, []int{11, 10, 9}), impl.ExtendResidues(a, c, 7), impl.ExtendResidues(a, c, 1001)}}
		},
	}
}

func TestResidueResultsShareNoMemory(t *testing.T) {
	pairs := [][2][]int{
		{{2, 4}, {3, 5}}, {{0, 0}, {3, 5}}, {{3, 4}, {3, 5}}, {{1}, {2}}, {{999}, {1000}}, {{2, 3, 2}, {3, 5, 7}}, {{3, 2, 1}, {5, 4, 7}}, {{7, 5, 3}, {4, 3, 2}}, {{1, 0, 0, 4, 3, 8}, firstPrimes}, {{742, 346, 864, 3, 58, 18}, moduliBelow}, {{3, 5}, {3, 5}}, {{1, 1}, {4, 6}}, {{}, {}}, {{}, {2}}, {{1}, {}}, {{1, 1, 1, 1, 1, 1, 1}, {2, 3, 5, 7, 11, 13, 17}}, {{-1, 4}, {3, 1001}},
	}
	for name, call := range residueCalls() {
		for _, pair := range pairs {
			checkMemory(t, name, call, pair)
		}
	}
}

// Residues and moduli may be one list, and so may the residues of two numbers.
func TestResidueFunctionsLeaveTheirArguments(t *testing.T) {
	for _, moduli := range slices.Concat(someModuli(), noModuli()) {
		before := slices.Clone(moduli)
		ones := slices.Repeat([]int{1}, len(moduli))
		checkResiduesRefused(t, moduli, moduli, moduli)
		checkOneRefusedResidues(t, moduli, moduli)
		impl.ModuliOk(moduli)
		impl.ResiduesOk(ones, moduli)
		impl.ResiduesOf(1, moduli)
		impl.FromResidues(ones, moduli)
		impl.ResiduesAdd(ones, ones, moduli)
		impl.ResiduesTimes(ones, ones, moduli)
		impl.GarnerDigits(ones, moduli)
		impl.ResiduesCompare(ones, ones, moduli)
		impl.ExtendResidues(ones, moduli, 7)
		if !slices.Equal(moduli, before) || slices.ContainsFunc(ones, func(d int) bool { return d != 1 }) {
			t.Errorf("%v became %v, and the ones %v", before, moduli, ones)
		}
	}
}
