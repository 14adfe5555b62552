package tests

import (
	"cmp"
	"fmt"
	"slices"
	"strconv"
	"testing"

	"loop.example/g03203/impl"
)

// A system writes the integers from least up to end as lists, each one in one way. Where its chapter has no sums, products or comparisons, they are nil.
type system struct {
	name       string
	least, end int
	write      func(n int) []int
	read       func(list []int) (int, bool)
	add, times func(a, c []int) ([]int, bool)
	compare    func(a, c []int) int
}

// inBase turns a function of a base into one of lists alone.
func inBase[R any](f func(list []int, b int) (R, bool), b int) func(list []int) (R, bool) {
	return func(list []int) (R, bool) { return f(list, b) }
}

func pairInBase(f func(a, c []int, b int) ([]int, bool), b int) func(a, c []int) ([]int, bool) {
	return func(a, c []int) ([]int, bool) { return f(a, c, b) }
}

func ofList(f func(list []int) int) func(list []int) (int, bool) {
	return func(list []int) (int, bool) { return f(list), true }
}

func ofPair(f func(a, c []int) []int) func(a, c []int) ([]int, bool) {
	return func(a, c []int) ([]int, bool) { return f(a, c), true }
}

// baseSystems are the digits and the long numbers in each base, which are written from base 10 there and read in base 7.
func baseSystems() []system {
	list := []system{}
	for b := 2; b <= 16; b++ {
		digits := system{
			name: "digits in base " + strconv.Itoa(b), end: maxNumber + 1,
			write:   func(n int) []int { return impl.DigitsOf(n, b) },
			read:    inBase(impl.ValueOf, b),
			add:     pairInBase(impl.AddDigits, b),
			times:   pairInBase(impl.TimesDigits, b),
			compare: func(a, c []int) int { return impl.CompareDigits(a, c, b) },
		}
		long := digits
		long.name = "long numbers in base " + strconv.Itoa(b)
		long.write = func(n int) []int {
			converted, _ := impl.ConvertDigits(impl.DigitsOf(n, 10), 10, b)
			return converted
		}
		long.read = func(list []int) (int, bool) {
			converted, _ := impl.ConvertDigits(list, b, 7)
			return impl.ValueOf(converted, 7)
		}
		list = append(list, digits, long)
	}
	return list
}

// integerSystems are those that write negative integers as well.
func integerSystems() []system {
	list := []system{{
		name: "signed binary digits", least: -maxNumber, end: maxNumber + 1,
		write: impl.SparseDigits,
		read:  impl.SignedValue,
	}}
	for b := 2; b <= 16; b++ {
		list = append(list, system{
			name: "digits in base -" + strconv.Itoa(b), least: -maxNumber, end: maxNumber + 1,
			write:   func(n int) []int { return impl.NegaDigits(n, b) },
			read:    inBase(impl.NegaValue, b),
			add:     pairInBase(impl.NegaAdd, b),
			times:   pairInBase(impl.NegaTimes, b),
			compare: func(a, c []int) int { return impl.NegaCompare(a, c, b) },
		})
	}
	for _, b := range balancedBases() {
		list = append(list, system{
			name: "balanced digits in base " + strconv.Itoa(b), least: -maxNumber, end: maxNumber + 1,
			write:   func(n int) []int { return impl.BalancedDigits(n, b) },
			read:    inBase(impl.BalancedValue, b),
			add:     pairInBase(impl.BalancedAdd, b),
			compare: func(a, c []int) int { return impl.BalancedCompare(a, c, b) },
		})
	}
	return list
}

// rangeSystems have a number of places that is given, and write the numbers below a range.
func rangeSystems() []system {
	list := []system{}
	for _, radices := range [][]int{{60}, {3, 5}, clock, tenOfMax, radicesBelow, tenDifferent, longestRadices} {
		list = append(list, system{
			name: fmt.Sprint("mixed places ", radices), end: rangeOf(radices),
			write: func(n int) []int { return impl.MixedDigits(n, radices) },
			read:  ofList(func(list []int) int { return impl.MixedValue(list, radices) }),
			add: func(a, c []int) ([]int, bool) {
				sum, carry := impl.MixedAdd(a, c, radices)
				return sum, carry == 0
			},
		}, system{
			name: fmt.Sprint("Gray digits ", radices), end: rangeOf(radices),
			write: func(n int) []int { return impl.GrayDigits(n, radices) },
			read:  ofList(func(list []int) int { return impl.FromGrayDigits(list, radices) }),
		})
	}
	for _, moduli := range [][]int{{1000}, {3, 5}, {60, 59, 53, 49, 47, 43}, firstPrimes, moduliBelow, fiveBelow, fourGreatest} {
		residues := system{
			name: fmt.Sprint("residues ", moduli), end: rangeOf(moduli),
			write:   func(n int) []int { return impl.ResiduesOf(n, moduli) },
			read:    ofList(func(list []int) int { return impl.FromResidues(list, moduli) }),
			add:     ofPair(func(a, c []int) []int { return impl.ResiduesAdd(a, c, moduli) }),
			times:   ofPair(func(a, c []int) []int { return impl.ResiduesTimes(a, c, moduli) }),
			compare: func(a, c []int) int { return impl.ResiduesCompare(a, c, moduli) },
		}
		list = append(list, residues)
		if areRadices(moduli) {
			list = append(list, system{
				name: fmt.Sprint("mixed places of residues ", moduli), end: rangeOf(moduli),
				write: func(n int) []int { return impl.GarnerDigits(impl.ResiduesOf(n, moduli), moduli) },
				read:  ofList(func(list []int) int { return impl.MixedValue(list, moduli) }),
			})
		}
	}
	return list
}

// otherSystems are those whose places count no powers and no products.
func otherSystems() []system {
	list := []system{
		{name: "factorial places", end: 40320, write: func(n int) []int { return impl.FactorialDigits(n, 8) }, read: ofList(impl.FactorialValue)},
		{name: "permutations", end: 40320, write: func(n int) []int { return impl.PermutationAt(n, 8) }, read: ofList(impl.RankOf)},
		{name: "masks of subsets", end: 1 << 20, write: impl.SubsetOf, read: ofList(impl.MaskOf)},
		{name: "sparse Fibonacci digits", end: maxNumber/2 + 1, write: impl.SparseFib, read: impl.FibValue},
		{name: "dense Fibonacci digits", end: maxNumber/2 + 1, write: impl.DenseFib, read: impl.FibValue},
		{
			name: "Gray codes", end: 1 << 39,
			write: func(n int) []int { return impl.DigitsOf(impl.GrayOf(n), 2) },
			read: func(list []int) (int, bool) {
				code, ok := impl.ValueOf(list, 2)
				return impl.FromGray(code), ok
			},
		},
	}
	for k := 1; k <= 8; k++ {
		list = append(list, system{
			name: "subsets of " + strconv.Itoa(k) + " numbers", end: exactBinomial(20, k),
			write: func(n int) []int {
				subset, _ := impl.SubsetAt(n, k)
				return subset
			},
			read: ofList(impl.SubsetRank),
		})
	}
	for _, coins := range [][]int{{1}, {1, 3, 4}, {1, 5, 10, 25, 50}, {1, 2, 5, 10, 20, 50, 100, 200, 500, 1000}} {
		list = append(list, system{
			name: fmt.Sprint("coins ", coins), end: 100001,
			write: func(n int) []int { return impl.GreedyCoins(n, coins) },
			read:  ofList(func(list []int) int { return impl.CoinsValue(list, coins) }),
		})
	}
	return list
}

func allSystems() []system {
	return slices.Concat(baseSystems(), integerSystems(), rangeSystems(), otherSystems())
}

func (s system) has(n int) bool { return n >= s.least && n < s.end }

// again writes an integer and reads it.
func (s system) again(n int) (int, bool) { return s.read(s.write(n)) }

// numbersFor lists integers of a system: small ones, some between, and the last ones at both ends.
func numbersFor(s system) []int {
	list := []int{s.least, s.least + 1, s.end - 2, s.end - 1, s.end / 2, s.end / 3, s.least / 2}
	list = append(list, upTo(-60, 300)...)
	for n := 7; n <= maxNumber; n = n*3 + 2 {
		list = append(list, n, -n, maxNumber-n, n-maxNumber)
	}
	list = slices.DeleteFunc(list, func(n int) bool { return !s.has(n) })
	slices.Sort(list)
	return slices.Compact(list)
}

func TestSystemsWriteEachNumberInOneWay(t *testing.T) {
	for _, s := range allSystems() {
		numbers := numbersFor(s)
		written := map[string]int{}
		for _, n := range numbers {
			list := s.write(n)
			if got, ok := s.read(list); !ok || got != n {
				t.Errorf("%s: %d is written as %v, and read as %d, %v", s.name, n, list, got, ok)
			}
			written[fmt.Sprint(list)] = n
		}
		if len(written) != len(numbers) || len(numbers) < 2 {
			t.Errorf("%s: %d numbers are written in %d ways", s.name, len(numbers), len(written))
		}
		for _, n := range []int{s.least - 1, s.end} {
			if got := s.write(n); len(got) != 0 && s.name != "Gray codes" {
				t.Errorf("%s: %d is written as %v", s.name, n, got)
			}
		}
	}
}

// operands are pairs of integers, of which each system takes those that it has.
func operands() [][2]int {
	list := [][2]int{{999999999859, 0}, {0, 999999999859}, {123456789012, 234567890123}, {maxNumber / 2, maxNumber / 2}, {maxNumber - 1, 1}, {1000000, 1000000}, {1000000, 999999}, {987654, 123456}, {999999, -999999}, {-maxNumber, maxNumber}, {-maxNumber / 2, -maxNumber / 2}, {14, 1}, {30029, 1}, {12345, 54321}, {3000, 40000}, {86399, 1}, {40000, 319}, {999, 999}, {65535, 65537}, {-1000000, 1000000}, {-777777, 1234567}}
	for m := -12; m <= 30; m += 3 {
		for n := -7; n <= 60; n += 4 {
			list = append(list, [2]int{m, n}, [2]int{100 * m, n}, [2]int{n, 1000 * m}, [2]int{12345 * m, 7 * n})
		}
	}
	return list
}

// checkResult asks whether an operation of a system has the integer that it should have, written in the one way.
func checkResult(t *testing.T, s system, pair [2]int, operation func(a, c []int) ([]int, bool), want int) {
	t.Helper()
	list, ok := operation(s.write(pair[0]), s.write(pair[1]))
	if got, good := s.read(list); !ok || !good || got != want || !slices.Equal(list, s.write(want)) {
		t.Errorf("%s: %d and %d have the result %v, which is %d, want %d", s.name, pair[0], pair[1], list, got, want)
	}
}

func TestSumsAndProductsOfSystemsAgree(t *testing.T) {
	for _, s := range allSystems() {
		sums, products := 0, 0
		for _, pair := range operands() {
			m, n := pair[0], pair[1]
			if !s.has(m) || !s.has(n) {
				continue
			}
			if s.add != nil && s.has(m+n) {
				checkResult(t, s, pair, s.add, m+n)
				sums++
			}
			if s.times != nil && s.has(m*n) {
				checkResult(t, s, pair, s.times, m*n)
				products++
			}
			if s.compare != nil && s.compare(s.write(m), s.write(n)) != cmp.Compare(m, n) {
				t.Errorf("%s: the comparison of %d and %d is wrong", s.name, m, n)
			}
		}
		if s.add != nil && sums < 5 || s.times != nil && products < 5 {
			t.Errorf("%s: only %d sums and %d products", s.name, sums, products)
		}
	}
}

// A sum that one system has found is written in all the others, and is there what the next one finds.
func TestSumsOfOneSystemAreThoseOfAnother(t *testing.T) {
	systems := allSystems()
	for _, pair := range [][2]int{{0, 0}, {0, 1}, {1, 1}, {7, 5}, {14, 44}, {123, 456}, {2999, 27000}, {20000, 20319}, {99999, 1}, {1048574, 1}, {1234567, 7654321}, {123456789012, 376543210988}, {499999999999, 499999999860}, {-1, 1}, {-5, 3}, {-123456, 654321}, {-123456789012, -1}} {
		want := pair[0] + pair[1]
		for _, s := range systems {
			if s.add == nil || !s.has(pair[0]) || !s.has(pair[1]) || !s.has(want) {
				continue
			}
			list, _ := s.add(s.write(pair[0]), s.write(pair[1]))
			sum, _ := s.read(list)
			for _, other := range systems {
				if !other.has(sum) {
					continue
				}
				if got, ok := other.again(sum); !ok || got != want {
					t.Errorf("%d and %d are %d in %s, and that is %d in %s", pair[0], pair[1], sum, s.name, got, other.name)
				}
			}
		}
	}
}

// Places that count the same are filled alike, whatever the system.
func TestSystemsAgreePlaceByPlace(t *testing.T) {
	for _, n := range someNumbers() {
		binary := impl.DigitsOf(n, 2)
		sparse, ok := impl.RewriteSigned(binary)
		checkList(t, sparse, ok, impl.SparseDigits(n), true, "RewriteSigned", binary)
		for b := 2; b <= 16; b++ {
			first := impl.DigitAt(n, b, 0)
			minus := append(impl.NegaDigits(n, b), 0)
			if minus[0] != first {
				t.Errorf("%d has the first digit %d in base %d, and %d in base -%d", n, first, b, minus[0], b)
			}
			if n >= b*997 {
				continue
			}
			if got := impl.ResiduesOf(n, []int{b, 997}); got[0] != first || impl.ExtendResidues(got, []int{b, 997}, b*b) != impl.DigitAt(n, b, 1)*b+first {
				t.Errorf("%d has the residues %v, and the first digit %d in base %d", n, got, first, b)
			}
		}
	}
	for n := range 5040 {
		if got := impl.LehmerOf(impl.PermutationAt(n, 7)); !slices.Equal(got, impl.FactorialDigits(n, 7)) || !slices.Equal(got[1:], impl.MixedDigits(n, upTo(2, 7))) {
			t.Errorf("the permutation %d has the digits %v", n, got)
		}
		if got := impl.MaskOf(impl.SubsetOf(n)); !slices.Equal(impl.DigitsOf(got, 2), impl.DigitsOf(n, 2)) {
			t.Errorf("the subset of the mask %d has the mask %d", n, got)
		}
	}
}

// Coins that are laid together count both numbers, though they need not be greedy.
func TestCoinsLaidTogether(t *testing.T) {
	coins := []int{1, 5, 10, 25, 50}
	moduli := []int{997, 991}
	for _, pair := range [][2]int{{0, 0}, {3, 4}, {49, 49}, {123, 877}, {4999, 50001}, {12345, 54321}} {
		a, c := impl.GreedyCoins(pair[0], coins), impl.GreedyCoins(pair[1], coins)
		for k := range a {
			a[k] += c[k]
		}
		sum := impl.ResiduesAdd(impl.ResiduesOf(pair[0], moduli), impl.ResiduesOf(pair[1], moduli), moduli)
		if got := impl.CoinsValue(a, coins); got != impl.FromResidues(sum, moduli) || got != pair[0]+pair[1] {
			t.Errorf("%d and %d are %d in coins", pair[0], pair[1], got)
		}
	}
}
