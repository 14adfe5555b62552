package tests

import (
	"math"
	"math/big"
	"slices"
	"testing"

	"loop.example/g03203/impl"
)

// greedyNumber is the greatest number with greedy digits, searchedNumber that whose lists are searched.
const greedyNumber = 100000
const searchedNumber = 400

// areCoins asks for each number how often it is in the list, not for the one behind each coin.
func areCoins(list []int) bool {
	sorted := slices.Compact(slices.Sorted(slices.Values(list)))
	return len(list) >= 1 && len(list) <= 10 && slices.Equal(list, sorted) && list[0] == 1 && list[len(list)-1] <= 1000
}

// tinyCoins lists all coins up to 7.
func tinyCoins() [][]int {
	lists := [][]int{}
	for mask := 1; mask < 128; mask += 2 {
		coins := []int{}
		for _, k := range maskList(mask) {
			coins = append(coins, k+1)
		}
		lists = append(lists, coins)
	}
	return lists
}

// someCoins lists coins of all lengths, and such with the least and the greatest places.
func someCoins() [][]int {
	return [][]int{
		{1}, {1, 2}, {1, 3}, {1, 10}, {1, 399}, {1, 400}, {1, 401}, {1, 999}, {1, 1000}, {1, 3, 4}, {1, 4, 5}, {1, 5, 8}, {1, 7, 10}, {1, 15, 25}, {1, 9, 10}, {1, 99, 100}, {1, 199, 200}, {1, 200, 201}, {1, 200, 400}, {1, 201, 399}, {1, 202, 401}, {1, 999, 1000}, {1, 334, 500}, {1, 500, 1000}, {1, 250, 400, 1000},
		{1, 5, 10}, {1, 5, 10, 25}, {1, 10, 25}, {1, 10, 25, 50}, {1, 6, 10}, {1, 5, 10, 20, 25}, {1, 4, 9}, {1, 8, 27}, {1, 3, 4, 10, 40}, {1, 12, 20, 240}, {1, 3, 6, 12, 24, 30}, {1, 2, 5, 10, 20, 50, 100, 200, 500}, {1, 2, 5, 10, 20, 50, 100, 200, 500, 1000}, {1, 5, 10, 25, 50, 100, 200, 500, 1000},
		{1, 2, 3, 4, 5, 6, 7, 8, 9, 10}, {1, 2, 3, 5, 8, 13, 21, 34, 55, 89}, {1, 2, 4, 8, 16, 32, 64, 128, 256, 512}, {1, 4, 9, 16, 25, 36, 49, 64, 81, 100}, {1, 3, 6, 10, 15, 21, 28, 36, 45, 55}, {1, 2, 3, 5, 7, 11, 13, 17, 19, 23}, {1, 7, 11, 13, 17, 19, 23, 29, 31, 37}, {1, 6, 15, 20, 63, 98, 140, 210, 399, 400},
		{1, 992, 993, 994, 995, 996, 997, 998, 999, 1000}, {1, 392, 393, 394, 395, 396, 397, 398, 399, 400}, {1, 191, 192, 193, 194, 195, 196, 197, 198, 199}, {1, 2, 994, 995, 996, 997, 998, 999, 1000}, {1, 120, 191, 210, 239, 251, 300}, {1, 3, 7, 17, 41, 99, 239, 577}, {1, 10, 99, 981},
	}
}

// noCoins lists what are no coins, most of them next to coins.
func noCoins() [][]int {
	lists := [][]int{
		nil, {}, {0}, {-1}, {2}, {3}, {10}, {1000}, {1001}, {math.MinInt64}, {math.MaxInt64}, {1<<32 + 1}, {0, 1}, {0, 2}, {0, 1, 2}, {2, 3}, {2, 4, 8}, {-1, 1}, {-1, 2}, {-1, 1, 2}, {1000, 1001}, {5, 10, 25}, {2, 1}, {1, 0}, {1, -1}, {1, 1}, {1, 1, 1}, {1, 1, 2}, {1, 2, 2}, {1, 2, 1}, {1, 3, 2}, {1, 3, 3, 4}, {1, 4, 3}, {1, 4, 3, 5}, {4, 3, 1}, {10, 5, 1}, {1000, 1},
		{1, 1001}, {1, 1000, 1001}, {1, 999, 1001}, {1, 1001, 1002}, {1, 1000, 1000}, {1, 1001, 1000}, {1, 1001, 2}, {1, 2000}, {1, 1 << 32}, {1, 1<<32 + 2}, {1, math.MaxInt64}, {1, math.MinInt64}, {1, math.MinInt64, math.MaxInt64}, {1, math.MaxInt64, math.MinInt64}, {math.MinInt64, 1}, {math.MinInt64, math.MaxInt64}, {math.MinInt64 + 1, 1, 2}, {1, 2, math.MaxInt64}, {1, 2, math.MinInt64},
		upTo(0, 9), upTo(0, 10), upTo(1, 11), upTo(1, 12), upTo(2, 11), upTo(1, 20), upTo(1, 1000), upTo(1, 3000), make([]int, 10), make([]int, 11), slices.Repeat([]int{1}, 10), slices.Repeat([]int{1}, 3000), append(upTo(1, 10), 1000), append(upTo(1, 9), 1001), append(upTo(1, 9), 9), append(upTo(1, 10), 10), append([]int{1}, upTo(993, 1001)...), append([]int{1}, upTo(991, 1000)...),
	}
	for _, coins := range [][]int{{1}, {1, 2}, {1, 3, 4}, {1, 5, 10, 25}, upTo(1, 10), append([]int{1}, upTo(992, 1000)...)} {
		lists = append(lists, oneChanged(coins, func(i int) []int {
			others := []int{math.MinInt64, -1 << 32, -1001, -1, 0, 1001, 1 << 32, math.MaxInt64}
			if i == 0 {
				others = append(others, 2, coins[len(coins)-1]+1)
			} else {
				others = append(others, coins[i-1], coins[i-1]-1)
			}
			if i+1 < len(coins) {
				others = append(others, coins[i+1], coins[i+1]+1)
			}
			return slices.DeleteFunc(others, func(n int) bool { return n == coins[i] })
		})...)
		back := backward(coins)
		if len(coins) > 1 {
			lists = append(lists, back)
		}
	}
	return lists
}

// coinSum multiplies and adds in math/big.
func coinSum(digits, coins []int) *big.Int {
	sum := new(big.Int)
	for k, d := range digits {
		sum.Add(sum, new(big.Int).Mul(big.NewInt(int64(d)), big.NewInt(int64(coins[k]))))
	}
	return sum
}

// areCoinDigits reports whether there is a digit from 0 to 100000 for each coin.
func areCoinDigits(digits, coins []int) bool {
	if !areCoins(coins) || len(digits) != len(coins) {
		return false
	}
	return !slices.ContainsFunc(digits, func(d int) bool { return d < 0 || d > greedyNumber })
}

// greedyList takes the greatest coin that is not too much, one by one or a thousand at once.
func greedyList(n int, coins []int) []int {
	digits := make([]int, len(coins))
	for n > 0 {
		k := len(coins) - 1
		for coins[k] > n {
			k--
		}
		times := 1
		if n >= 1001*coins[k] {
			times = 1000
		}
		digits[k] += times
		n -= times * coins[k]
	}
	return digits
}

// coinLists lists all lists of digits of a number, in lexicographic order.
func coinLists(n int, coins []int) [][]int {
	if len(coins) == 0 {
		if n == 0 {
			return [][]int{{}}
		}
		return nil
	}
	lists := [][]int{}
	for d := 0; d*coins[0] <= n; d++ {
		for _, rest := range coinLists(n-d*coins[0], coins[1:]) {
			lists = append(lists, append([]int{d}, rest...))
		}
	}
	return lists
}

// shortestWays searches from 0 on, with one coin more in each round, and returns for each number up to 400 the round in which it is found; -1 if it is in none.
func shortestWays(coins []int) []int {
	rounds := slices.Repeat([]int{-1}, searchedNumber+1)
	rounds[0] = 0
	found := []int{0}
	for round := 1; len(found) > 0; round++ {
		next := []int{}
		for _, n := range found {
			for _, coin := range coins {
				if sum := n + coin; sum <= searchedNumber && rounds[sum] == -1 {
					rounds[sum] = round
					next = append(next, sum)
				}
			}
		}
		found = next
	}
	return rounds
}

// coinCounts counts the lists of all numbers up to 400 by how often each has the last coin.
func coinCounts(coins []int) []int {
	counts := make([]int, searchedNumber+1)
	if len(coins) == 0 {
		counts[0] = 1
		return counts
	}
	last := coins[len(coins)-1]
	before := coinCounts(coins[:len(coins)-1])
	for n := range counts {
		for left := n; left >= 0; left -= last {
			counts[n] += before[left]
		}
	}
	return counts
}

// leastLists makes the least digits of all numbers up to 400: each digit, from the first on, is the least one with which the other coins give the rest in as many pieces as are left.
func leastLists(coins []int) [][]int {
	rounds := [][]int{}
	for k := range coins {
		rounds = append(rounds, shortestWays(coins[k:]))
	}
	rounds = append(rounds, shortestWays(nil))
	lists := [][]int{}
	for n := range searchedNumber + 1 {
		left, pieces, digits := n, rounds[0][n], []int{}
		for k, coin := range coins {
			d := 0
			for left-d*coin > 0 && rounds[k+1][left-d*coin] == -1 || rounds[k+1][left-d*coin] != pieces-d {
				d++
			}
			digits = append(digits, d)
			left, pieces = left-d*coin, pieces-d
		}
		lists = append(lists, digits)
	}
	return lists
}

func checkCoins(t *testing.T, list []int) {
	t.Helper()
	if got := impl.CoinsOk(list); got != areCoins(list) {
		t.Errorf("CoinsOk(%v) = %v", list, got)
	}
}

func TestCoinsTable(t *testing.T) {
	cases := []struct {
		coins []int
		ok    bool
	}{
		{nil, false}, {[]int{}, false}, {[]int{1}, true}, {[]int{2}, false}, {[]int{0}, false}, {[]int{-1}, false}, {[]int{1000}, false}, {[]int{0, 1}, false}, {[]int{0, 1, 2}, false}, {[]int{2, 3}, false}, {[]int{1, 2}, true}, {[]int{1, 3, 4}, true}, {[]int{1, 1}, false}, {[]int{1, 3, 3}, false}, {[]int{1, 4, 3}, false}, {[]int{2, 1}, false},
		{[]int{1, 999}, true}, {[]int{1, 1000}, true}, {[]int{1, 1001}, false}, {[]int{1, 1000, 1001}, false}, {[]int{1, 0}, false}, {[]int{1, -1}, false}, {[]int{1, 2, 0}, false}, {[]int{1, math.MaxInt64}, false}, {[]int{math.MinInt64, 1}, false},
		{upTo(1, 9), true}, {upTo(1, 10), true}, {upTo(1, 11), false}, {append(upTo(1, 9), 1000), true}, {append(upTo(1, 9), 1001), false}, {append(upTo(1, 10), 1000), false},
	}
	for _, c := range cases {
		if got := impl.CoinsOk(c.coins); got != c.ok || areCoins(c.coins) != c.ok {
			t.Errorf("CoinsOk(%v) = %v", c.coins, got)
		}
	}
}

func TestCoinsOkOfManyLists(t *testing.T) {
	for _, list := range slices.Concat(listsOver([]int{-1, 0, 1, 2, 3, 4, 1000, 1001}, 4), tinyCoins(), someCoins(), noCoins()) {
		checkCoins(t, list)
	}
	for _, coins := range append(tinyCoins(), someCoins()...) {
		if !areCoins(coins) {
			t.Errorf("%v are no coins of the test", coins)
		}
	}
	for _, list := range noCoins() {
		if areCoins(list) {
			t.Errorf("%v are coins", list)
		}
	}
	for n := -10; n <= 1010; n++ {
		checkCoins(t, []int{n})
		checkCoins(t, []int{1, n})
		checkCoins(t, []int{1, 500, n})
	}
}

// greedyNumbers lists numbers with greedy digits, among them each coin, its multiples and their neighbours.
func greedyNumbers(coins []int) []int {
	numbers := append(upTo(0, 60), 399, 400, 401, 999, 1000, 1001, 12345, 49999, 99998, 99999, 100000)
	for _, coin := range coins {
		numbers = append(numbers, coin-1, coin, coin+1, 2*coin-1, 2*coin, 2*coin+1, 99*coin-1, 99*coin, greedyNumber-coin, greedyNumber/coin*coin, greedyNumber/coin*coin-1)
	}
	return numbers
}

// noGreedyNumbers lists numbers without greedy digits, and so without a search.
func noGreedyNumbers() []int {
	return []int{math.MinInt64, math.MinInt64 + 1, -1 << 40, -1 << 32, -1<<32 + 6, -maxNumber, -100001, -100000, -401, -400, -2, -1, 100001, 100002, 1 << 32, 1<<32 + 6, maxNumber, 1 << 62, math.MaxInt64 - 1, math.MaxInt64}
}

func TestGreedyCoinsTable(t *testing.T) {
	cases := []struct {
		n      int
		coins  []int
		digits []int
	}{
		{-1, []int{1, 3, 4}, nil}, {0, []int{1, 3, 4}, []int{0, 0, 0}}, {1, []int{1, 3, 4}, []int{1, 0, 0}}, {2, []int{1, 3, 4}, []int{2, 0, 0}}, {3, []int{1, 3, 4}, []int{0, 1, 0}}, {4, []int{1, 3, 4}, []int{0, 0, 1}}, {5, []int{1, 3, 4}, []int{1, 0, 1}}, {6, []int{1, 3, 4}, []int{2, 0, 1}}, {7, []int{1, 3, 4}, []int{0, 1, 1}},
		{100000, []int{1, 3, 4}, []int{0, 0, 25000}}, {99999, []int{1, 3, 4}, []int{0, 1, 24999}}, {100001, []int{1, 3, 4}, nil}, {math.MinInt64, []int{1, 3, 4}, nil}, {math.MaxInt64, []int{1, 3, 4}, nil},
		{0, []int{1}, []int{0}}, {1, []int{1}, []int{1}}, {100000, []int{1}, []int{100000}}, {100001, []int{1}, nil}, {-1, []int{1}, nil}, {999, []int{1, 1000}, []int{999, 0}}, {1000, []int{1, 1000}, []int{0, 1}}, {1001, []int{1, 1000}, []int{1, 1}}, {100000, []int{1, 1000}, []int{0, 100}}, {99999, []int{1, 1000}, []int{999, 99}},
		{99, []int{1, 5, 10, 25}, []int{4, 0, 2, 3}}, {1023, []int{1, 2, 4, 8, 16, 32, 64, 128, 256, 512}, []int{1, 1, 1, 1, 1, 1, 1, 1, 1, 1}}, {1024, []int{1, 2, 4, 8, 16, 32, 64, 128, 256, 512}, []int{0, 0, 0, 0, 0, 0, 0, 0, 0, 2}},
		{6, nil, nil}, {0, nil, nil}, {6, []int{2, 3}, nil}, {6, []int{1, 1}, nil}, {6, []int{1, 4, 3}, nil}, {6, []int{0, 1}, nil}, {6, []int{1, 1001}, nil}, {6, upTo(1, 11), nil}, {6, upTo(1, 10), []int{0, 0, 0, 0, 0, 1, 0, 0, 0, 0}},
	}
	for _, c := range cases {
		if got := impl.GreedyCoins(c.n, c.coins); !slices.Equal(got, c.digits) {
			t.Errorf("GreedyCoins(%d, %v) = %v, want %v", c.n, c.coins, got, c.digits)
		}
	}
}

func TestGreedyCoinsOfNumbers(t *testing.T) {
	for _, coins := range append(tinyCoins(), someCoins()...) {
		for _, n := range greedyNumbers(coins) {
			want := greedyList(n, coins)
			if got := impl.GreedyCoins(n, coins); !slices.Equal(got, want) {
				t.Errorf("GreedyCoins(%d, %v) = %v, want %v", n, coins, got, want)
			}
			if got := impl.CoinsValue(want, coins); got != n {
				t.Errorf("CoinsValue(%v, %v) = %d, want %d", want, coins, got, n)
			}
			if !impl.IsGreedy(want, coins) {
				t.Errorf("%v are not greedy for %v", want, coins)
			}
		}
		for _, n := range noGreedyNumbers() {
			if got := impl.GreedyCoins(n, coins); len(got) != 0 {
				t.Errorf("GreedyCoins(%d, %v) = %v", n, coins, got)
			}
		}
	}
}

func TestGreedyCoinsOfAllNumbers(t *testing.T) {
	coins := []int{1, 7, 10, 999, 1000}
	for n := range greedyNumber + 1 {
		if got := impl.GreedyCoins(n, coins); !slices.Equal(got, greedyList(n, coins)) {
			t.Fatalf("GreedyCoins(%d, %v) = %v", n, coins, got)
		}
	}
}

// checkCoinDigits asks for the value of digits, and whether they are greedy.
func checkCoinDigits(t *testing.T, digits, coins []int) {
	t.Helper()
	value, greedy := -1, false
	if areCoinDigits(digits, coins) {
		value = int(coinSum(digits, coins).Int64())
		greedy = value <= greedyNumber && slices.Equal(digits, greedyList(value, coins))
	}
	if got := impl.CoinsValue(digits, coins); got != value {
		t.Errorf("CoinsValue(%v, %v) = %d, want %d", digits, coins, got, value)
	}
	if got := impl.IsGreedy(digits, coins); got != greedy {
		t.Errorf("IsGreedy(%v, %v) = %v", digits, coins, got)
	}
}

func TestCoinDigitsTable(t *testing.T) {
	most := slices.Repeat([]int{100000}, 10)
	cases := []struct {
		digits, coins []int
		value         int
		greedy        bool
	}{
		{[]int{2, 0, 1}, []int{1, 3, 4}, 6, true}, {[]int{0, 2, 0}, []int{1, 3, 4}, 6, false}, {[]int{6, 0, 0}, []int{1, 3, 4}, 6, false}, {[]int{3, 1, 0}, []int{1, 3, 4}, 6, false}, {[]int{0, 0, 0}, []int{1, 3, 4}, 0, true}, {[]int{0, 1, 1}, []int{1, 3, 4}, 7, true}, {[]int{2, 0, 1, 0}, []int{1, 3, 4}, -1, false}, {[]int{2, 0}, []int{1, 3, 4}, -1, false},
		{[]int{-1, 0, 1}, []int{1, 3, 4}, -1, false}, {[]int{0, -1, 1}, []int{1, 3, 4}, -1, false}, {[]int{0, 0, -1}, []int{1, 3, 4}, -1, false}, {[]int{-1}, []int{1}, -1, false}, {[]int{0}, []int{1}, 0, true}, {[]int{99999}, []int{1}, 99999, true}, {[]int{100000}, []int{1}, 100000, true}, {[]int{100001}, []int{1}, -1, false},
		{nil, []int{1}, -1, false}, {[]int{}, []int{1}, -1, false}, {nil, nil, -1, false}, {[]int{}, []int{}, -1, false}, {[]int{1}, nil, -1, false}, {[]int{0, 0}, []int{1}, -1, false}, {[]int{0}, []int{2}, -1, false}, {[]int{1}, []int{2}, -1, false}, {[]int{1, 1}, []int{2, 3}, -1, false}, {[]int{1, 0}, []int{1, 1}, -1, false}, {[]int{0, 1, 0}, []int{1, 4, 3}, -1, false},
		{[]int{0, 100}, []int{1, 1000}, 100000, true}, {[]int{1, 100}, []int{1, 1000}, 100001, false}, {[]int{999, 99}, []int{1, 1000}, 99999, true}, {[]int{1000, 99}, []int{1, 1000}, 100000, false}, {[]int{0, 101}, []int{1, 1000}, 101000, false}, {[]int{0, 100000}, []int{1, 1000}, 100000000, false}, {[]int{100000, 100000}, []int{1, 1000}, 100100000, false}, {[]int{0, 100001}, []int{1, 1000}, -1, false}, {[]int{100000, 0}, []int{1, 1000}, 100000, false},
		{most, upTo(1, 10), 5500000, false}, {most, append([]int{1}, upTo(992, 1000)...), 896500000, false}, {slices.Repeat([]int{100000}, 11), upTo(1, 11), -1, false}, {[]int{math.MinInt64}, []int{1}, -1, false}, {[]int{math.MaxInt64}, []int{1}, -1, false}, {[]int{0, math.MaxInt64}, []int{1, 2}, -1, false}, {[]int{0, 1 << 63 >> 1}, []int{1, 4}, -1, false},
	}
	for _, c := range cases {
		if got := impl.CoinsValue(c.digits, c.coins); got != c.value {
			t.Errorf("CoinsValue(%v, %v) = %d, want %d", c.digits, c.coins, got, c.value)
		}
		if got := impl.IsGreedy(c.digits, c.coins); got != c.greedy {
			t.Errorf("IsGreedy(%v, %v) = %v", c.digits, c.coins, got)
		}
		checkCoinDigits(t, c.digits, c.coins)
	}
}

func TestCoinDigitsOfAllShortLists(t *testing.T) {
	systems := [][]int{{1}, {1, 2}, {1, 3, 4}, {1, 5, 8}, {1, 7, 10}, {1, 3, 4, 5}, {1, 3, 6, 7}, {1, 4}, {1, 999, 1000}, {2}, {0}, {1, 1}, {2, 3}, {1, 4, 3}, nil}
	for _, digits := range append(listsOver([]int{-1, 0, 1, 2, 3}, 4), listsOver([]int{0, 1, 24999, 25000, 33333, 100000, 100001}, 3)...) {
		for _, coins := range systems {
			checkCoinDigits(t, digits, coins)
		}
	}
}

// One digit too few or too many, and one that is too small or too great at each place.
func TestWrongCoinDigits(t *testing.T) {
	for _, coins := range someCoins() {
		for _, n := range []int{0, 1, 6, 399, 1000, 99999, 100000} {
			digits := greedyList(n, coins)
			checkCoinDigits(t, digits, coins)
			checkCoinDigits(t, digits[1:], coins)
			checkCoinDigits(t, digits[:len(digits)-1], coins)
			checkCoinDigits(t, append(slices.Clone(digits), 0), coins)
			checkCoinDigits(t, append(slices.Clone(digits), 1), coins)
			checkCoinDigits(t, append([]int{0}, digits...), coins)
			for _, changed := range oneChanged(digits, func(i int) []int {
				return []int{math.MinInt64, -1 << 32, -1, 0, 1, digits[i] - 1, digits[i] + 1, 99999, 100000, 100001, 1 << 32, math.MaxInt64}
			}) {
				checkCoinDigits(t, changed, coins)
			}
		}
	}
	for _, coins := range noCoins() {
		checkCoinDigits(t, make([]int, len(coins)), coins)
		checkCoinDigits(t, slices.Repeat([]int{1}, len(coins)), coins)
		checkCoinDigits(t, append([]int{1}, make([]int, 9)...), coins)
		checkCoinDigits(t, nil, coins)
	}
}

// Of all lists of digits of a number, one is greedy, the fewest coins are those of some, and the least of these are the least digits.
func TestAllCoinListsOfSmallNumbers(t *testing.T) {
	for _, coins := range append(tinyCoins(), []int{1, 9, 10}, []int{1, 5, 10, 25}, []int{1, 12, 20}, []int{1, 6, 10, 15}, upTo(1, 10)) {
		for n := range 26 {
			lists := coinLists(n, coins)
			greedy := [][]int{}
			least := lists[0]
			for _, list := range lists {
				checkCoinDigits(t, list, coins)
				if impl.CoinsValue(list, coins) != n {
					t.Errorf("CoinsValue(%v, %v) is not %d", list, coins, n)
				}
				if impl.IsGreedy(list, coins) {
					greedy = append(greedy, list)
				}
				if sumOf(list) < sumOf(least) {
					least = list
				}
			}
			if len(greedy) != 1 || !slices.Equal(greedy[0], impl.GreedyCoins(n, coins)) {
				t.Errorf("%d has the greedy digits %v for %v", n, greedy, coins)
			}
			if got := impl.CountCoins(n, coins); got != len(lists) {
				t.Errorf("CountCoins(%d, %v) = %d, want %d", n, coins, got, len(lists))
			}
			if got := impl.FewestCoins(n, coins); got != sumOf(least) {
				t.Errorf("FewestCoins(%d, %v) = %d, want %d", n, coins, got, sumOf(least))
			}
			if got := impl.LeastDigits(n, coins); !slices.Equal(got, least) {
				t.Errorf("LeastDigits(%d, %v) = %v, want %v", n, coins, got, least)
			}
		}
	}
}

func TestSearchedCoinsTable(t *testing.T) {
	cases := []struct {
		n             int
		coins         []int
		fewest, count int
		least         []int
	}{
		{-1, []int{1, 3, 4}, -1, -1, nil}, {0, []int{1, 3, 4}, 0, 1, []int{0, 0, 0}}, {1, []int{1, 3, 4}, 1, 1, []int{1, 0, 0}}, {2, []int{1, 3, 4}, 2, 1, []int{2, 0, 0}}, {3, []int{1, 3, 4}, 1, 2, []int{0, 1, 0}}, {4, []int{1, 3, 4}, 1, 3, []int{0, 0, 1}}, {5, []int{1, 3, 4}, 2, 3, []int{1, 0, 1}}, {6, []int{1, 3, 4}, 2, 4, []int{0, 2, 0}},
		{399, []int{1, 3, 4}, 100, 6767, []int{0, 1, 99}}, {400, []int{1, 3, 4}, 100, 6801, []int{0, 0, 100}}, {401, []int{1, 3, 4}, -1, -1, nil}, {math.MinInt64, []int{1, 3, 4}, -1, -1, nil}, {math.MaxInt64, []int{1, 3, 4}, -1, -1, nil},
		{0, []int{1}, 0, 1, []int{0}}, {1, []int{1}, 1, 1, []int{1}}, {400, []int{1}, 400, 1, []int{400}}, {401, []int{1}, -1, -1, nil}, {-1, []int{1}, -1, -1, nil}, {400, []int{1, 400}, 1, 2, []int{0, 1}}, {399, []int{1, 400}, 399, 1, []int{399, 0}}, {400, []int{1, 401}, 400, 1, []int{400, 0}}, {400, []int{1, 399}, 2, 2, []int{1, 1}}, {400, []int{1, 1000}, 400, 1, []int{400, 0}},
		{100, []int{1, 5, 10, 25}, 4, 242, []int{0, 0, 0, 4}}, {10, []int{1, 4, 5, 6}, 2, 8, []int{0, 0, 2, 0}}, {9, []int{1, 2, 7, 8}, 2, 8, []int{0, 1, 1, 0}}, {8, []int{1, 3, 4, 5, 7}, 2, 9, []int{0, 0, 2, 0, 0}}, {12, []int{1, 4, 6, 8}, 2, 9, []int{0, 0, 2, 0}},
		{400, upTo(1, 10), 40, 359874480333, []int{0, 0, 0, 0, 0, 0, 0, 0, 0, 40}},
		{0, nil, -1, -1, nil}, {4, nil, -1, -1, nil}, {4, []int{2, 4}, -1, -1, nil}, {4, []int{1, 1}, -1, -1, nil}, {4, []int{1, 4, 3}, -1, -1, nil}, {4, []int{0, 1}, -1, -1, nil}, {4, []int{1, 1001}, -1, -1, nil}, {4, upTo(1, 11), -1, -1, nil},
	}
	for _, c := range cases {
		fewest, count, least := impl.FewestCoins(c.n, c.coins), impl.CountCoins(c.n, c.coins), impl.LeastDigits(c.n, c.coins)
		if fewest != c.fewest || count != c.count || !slices.Equal(least, c.least) {
			t.Errorf("%d in %v: the fewest are %d, of %d lists, and the least %v", c.n, c.coins, fewest, count, least)
		}
	}
}

func TestSearchedCoinsOfAllNumbers(t *testing.T) {
	for _, coins := range append(tinyCoins(), someCoins()...) {
		rounds, counts, lists := shortestWays(coins), coinCounts(coins), leastLists(coins)
		for n := range searchedNumber + 1 {
			if got := impl.FewestCoins(n, coins); got != rounds[n] {
				t.Errorf("FewestCoins(%d, %v) = %d, want %d", n, coins, got, rounds[n])
			}
			if got := impl.CountCoins(n, coins); got != counts[n] {
				t.Errorf("CountCoins(%d, %v) = %d, want %d", n, coins, got, counts[n])
			}
		}
		for n := 0; n <= searchedNumber; n += 1 + n/25 {
			for _, m := range []int{n, searchedNumber - n} {
				got := impl.LeastDigits(m, coins)
				if !slices.Equal(got, lists[m]) {
					t.Errorf("LeastDigits(%d, %v) = %v, want %v", m, coins, got, lists[m])
				}
				if coinSum(got, coins).Int64() != int64(m) || sumOf(got) != rounds[m] {
					t.Errorf("LeastDigits(%d, %v) = %v, which is not right", m, coins, got)
				}
			}
		}
		for _, n := range append(noGreedyNumbers(), 401, 402, 1000, 99999, 100000) {
			if fewest, count, least := impl.FewestCoins(n, coins), impl.CountCoins(n, coins), impl.LeastDigits(n, coins); fewest != -1 || count != -1 || len(least) != 0 {
				t.Errorf("%d in %v: %d, %d and %v", n, coins, fewest, count, least)
			}
		}
	}
}

// Nothing is answered for what are no coins.
func TestNoCoins(t *testing.T) {
	for _, coins := range noCoins() {
		for _, n := range append(noGreedyNumbers(), 0, 1, 2, 6, 10, 399, 400, 401, 1000, 100000) {
			if greedy, least := impl.GreedyCoins(n, coins), impl.LeastDigits(n, coins); len(greedy) != 0 || len(least) != 0 {
				t.Errorf("the digits of %d in %v are %v and %v", n, coins, greedy, least)
			}
			if fewest, count, first := impl.FewestCoins(n, coins), impl.CountCoins(n, coins), impl.FirstUngreedy(coins, n); fewest != -1 || count != -1 || first != -1 {
				t.Errorf("%d in %v: %d, %d and %d", n, coins, fewest, count, first)
			}
		}
	}
}

func TestFirstUngreedyTable(t *testing.T) {
	cases := []struct {
		coins []int
		first int
	}{
		{[]int{1}, -1}, {[]int{1, 2}, -1}, {[]int{1, 1000}, -1}, {[]int{1, 2, 3}, -1}, {[]int{1, 5, 10}, -1}, {[]int{1, 5, 10, 25}, -1}, {[]int{1, 2, 5, 10, 20, 50, 100, 200, 500, 1000}, -1}, {upTo(1, 10), -1}, {[]int{1, 2, 3, 5, 8, 13, 21, 34, 55, 89}, -1}, {[]int{1, 999, 1000}, -1}, {[]int{1, 300, 301}, -1},
		{[]int{1, 3, 4}, 6}, {[]int{1, 4, 5}, 8}, {[]int{1, 5, 8}, 10}, {[]int{1, 10, 25}, 30}, {[]int{1, 7, 10}, 14}, {[]int{1, 15, 25}, 30}, {[]int{1, 12, 20, 240}, 24}, {[]int{1, 99, 100}, 198}, {[]int{1, 199, 200}, 398}, {[]int{1, 200, 201}, 400}, {[]int{1, 201, 202}, -1}, {[]int{1, 5, 10, 20, 25}, 40}, {[]int{1, 4, 9}, 12}, {[]int{1, 3, 6, 12, 24, 30}, 48}, {[]int{1, 200, 399}, -1}, {[]int{1, 2, 400}, -1},
	}
	for _, c := range cases {
		for most := -3; most <= searchedNumber+3; most++ {
			want := -1
			if c.first != -1 && most >= c.first && most <= searchedNumber {
				want = c.first
			}
			if got := impl.FirstUngreedy(c.coins, most); got != want {
				t.Errorf("FirstUngreedy(%v, %d) = %d, want %d", c.coins, most, got, want)
			}
		}
	}
}

func TestFirstUngreedyOfManyCoins(t *testing.T) {
	for _, coins := range append(tinyCoins(), someCoins()...) {
		first := -1
		for n, fewest := range shortestWays(coins) {
			if first == -1 && sumOf(greedyList(n, coins)) > fewest {
				first = n
			}
		}
		for _, most := range []int{0, 1, first - 1, first, first + 1, 200, 399, 400} {
			want := -1
			if first <= most && most <= searchedNumber {
				want = first
			}
			if got := impl.FirstUngreedy(coins, most); got != want {
				t.Errorf("FirstUngreedy(%v, %d) = %d, want %d", coins, most, got, want)
			}
		}
		for _, most := range append(noGreedyNumbers(), 401, 402, 1000, 100000) {
			if got := impl.FirstUngreedy(coins, most); got != -1 {
				t.Errorf("FirstUngreedy(%v, %d) = %d", coins, most, got)
			}
		}
	}
}

func TestRecurrentCoinsTable(t *testing.T) {
	cases := []struct {
		a, b, k int
		coins   []int
	}{
		{2, 1, 4, []int{1, 3, 7, 17}}, {1, 1, 10, []int{1, 2, 3, 5, 8, 13, 21, 34, 55, 89}}, {1, 2, 9, []int{1, 2, 4, 8, 16, 32, 64, 128, 256}}, {1, 2, 10, []int{1, 2, 4, 8, 16, 32, 64, 128, 256, 512}}, {1, 3, 5, []int{1, 2, 5, 11, 26}}, {1, 0, 1, []int{1}}, {1, 0, 2, []int{1, 2}}, {1, 0, 3, nil}, {1, 0, 10, nil}, {2, 0, 5, []int{1, 3, 6, 12, 24}}, {9, 0, 3, []int{1, 10, 90}},
		{0, 1, 3, nil}, {0, 1, 1, nil}, {0, 0, 1, nil}, {0, 9, 2, nil}, {-1, 1, 1, nil}, {1, 1, 1, []int{1}}, {9, 1, 1, []int{1}}, {10, 1, 1, nil}, {10, 0, 2, nil}, {9, 9, 2, []int{1, 10}}, {1, -1, 1, nil}, {1, -1, 2, nil}, {5, -1, 3, nil}, {1, 9, 1, []int{1}}, {1, 10, 1, nil}, {1, 10, 2, nil}, {9, 10, 4, nil},
		{1, 1, 0, nil}, {1, 1, -1, nil}, {1, 1, 2, []int{1, 2}}, {1, 1, 11, nil}, {2, 1, 8, []int{1, 3, 7, 17, 41, 99, 239, 577}}, {2, 1, 9, nil}, {2, 1, 10, nil}, {9, 9, 4, []int{1, 10, 99, 981}}, {9, 9, 5, nil}, {3, 0, 7, []int{1, 4, 12, 36, 108, 324, 972}}, {3, 0, 8, nil}, {2, 9, 5, []int{1, 3, 15, 57, 249}}, {2, 9, 6, nil}, {5, 3, 5, nil}, {5, 2, 5, []int{1, 6, 32, 172, 924}}, {3, 4, 5, []int{1, 4, 16, 64, 256}}, {3, 4, 6, nil}, {9, 9, 10, nil}, {9, 0, 10, nil},
		{math.MinInt64, 1, 3, nil}, {math.MaxInt64, 1, 3, nil}, {1, math.MinInt64, 3, nil}, {1, math.MaxInt64, 3, nil}, {1, 1, math.MinInt64, nil}, {1, 1, math.MaxInt64, nil}, {math.MaxInt64, math.MaxInt64, math.MaxInt64, nil}, {math.MinInt64, math.MinInt64, math.MinInt64, nil}, {1<<32 + 1, 1, 3, nil}, {1, 1 << 32, 3, nil}, {1, 1, 1<<32 + 3, nil}, {1 << 32, 1 << 32, 1 << 32, nil},
	}
	for _, c := range cases {
		got, ok := impl.RecurrentCoins(c.a, c.b, c.k)
		checkList(t, got, ok, c.coins, c.coins != nil, "RecurrentCoins", c.a, c.b, c.k)
	}
}

// recurrentList adds equal coins one by one.
func recurrentList(a, b, k int) []int {
	coins := []int{1, a + 1}
	for len(coins) < k {
		next := 0
		for range a {
			next += coins[len(coins)-1]
		}
		for range b {
			next += coins[len(coins)-2]
		}
		coins = append(coins, next)
		if next > 1000 {
			break
		}
	}
	return coins[:min(k, len(coins))]
}

func TestRecurrentCoinsOfAllArguments(t *testing.T) {
	for a := -4; a <= 14; a++ {
		for b := -4; b <= 14; b++ {
			for k := -3; k <= 15; k++ {
				want, good := []int(nil), false
				if a >= 1 && a <= 9 && b >= 0 && b <= 9 && k >= 1 && k <= 10 {
					if list := recurrentList(a, b, k); areCoins(list) {
						want, good = list, true
					}
				}
				got, ok := impl.RecurrentCoins(a, b, k)
				checkList(t, got, ok, want, good, "RecurrentCoins", a, b, k)
				if ok && !impl.CoinsOk(got) {
					t.Errorf("RecurrentCoins(%d, %d, %d) = %v, which are no coins", a, b, k, got)
				}
			}
		}
	}
}

// With b of at most a, greedy digits have the fewest coins.
func TestGreedyRecurrentCoins(t *testing.T) {
	for a := 1; a <= 9; a++ {
		for b := 0; b <= a; b++ {
			for k := 1; k <= 10; k++ {
				coins, ok := impl.RecurrentCoins(a, b, k)
				if first := impl.FirstUngreedy(coins, 400); ok && first != -1 {
					t.Errorf("FirstUngreedy(%v, 400) = %d", coins, first)
				}
			}
		}
	}
}

// coinCalls are calls with digits and coins for checkMemory.
func coinCalls() map[string]func(a, c []int) [][]int {
	yes := map[bool]int{true: 1}
	return map[string]func(a, c []int) [][]int{
		"GreedyCoins": func(a, c []int) [][]int {
			return [][]int{impl.GreedyCoins(6, c), impl.GreedyCoins(0, c), impl.GreedyCoins(100000, c), impl.GreedyCoins(6, c), impl.GreedyCoins(6, a)}
		},
		"LeastDigits": func(a, c []int) [][]int {
			return [][]int{impl.LeastDigits(6, c), impl.LeastDigits(0, c), impl.LeastDigits(0, c), impl.LeastDigits(400, c), impl.LeastDigits(6, c), impl.LeastDigits(6, a)}
		},
		"RecurrentCoins": func(a, c []int) [][]int {
			first, _ := impl.RecurrentCoins(2, 1, len(c))
			second, _ := impl.RecurrentCoins(2, 1, len(c))
			third, _ := impl.RecurrentCoins(1, 1, len(a))
			return [][]int{first, second, third}
		},
		"the answers for digits and coins": func(a, c []int) [][]int {
			return [][]int{{yes[impl.CoinsOk(c)], yes[impl.CoinsOk(a)], impl.CoinsValue(a, c), yes[impl.IsGreedy(a, c)]}, {impl.FewestCoins(100, c), impl.FirstUngreedy(c, 200), impl.CountCoins(100, c)}}
		},
	}
}

func TestCoinResultsShareNoMemory(t *testing.T) {
	pairs := [][2][]int{
		{{2, 0, 1}, {1, 3, 4}}, {{0, 2, 0}, {1, 3, 4}}, {{1, 3, 4}, {1, 3, 4}}, {{}, {1}}, {{1}, {1}}, {{0}, {1}}, {{1}, {}}, {{}, {}}, {{1, 2}, {1, 5, 10}}, {{1, 0}, {2, 3}}, {{0, 1, 1}, {1, 4, 3}}, {{-1, 0, 0}, {1, 3, 4}}, {make([]int, 10), {1, 2, 3, 4, 5, 6, 7, 8, 9, 10}}, {upTo(1, 10), {1, 992, 993, 994, 995, 996, 997, 998, 999, 1000}}, {make([]int, 11), upTo(1, 11)},
	}
	for name, call := range coinCalls() {
		for _, pair := range pairs {
			checkMemory(t, name, call, pair)
		}
	}
}

// Digits and coins may be one list.
func TestCoinsAsTheirOwnDigits(t *testing.T) {
	for _, coins := range append(tinyCoins(), someCoins()...) {
		before := slices.Clone(coins)
		checkCoinDigits(t, coins, coins)
		if !slices.Equal(coins, before) {
			t.Errorf("%v became %v", before, coins)
		}
	}
}
