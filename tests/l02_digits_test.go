package tests

import (
	"math"
	"math/big"
	"slices"
	"strings"
	"testing"

	"loop.example/g03203/impl"
)

// maxNumber repeats the document's number, so that a changed constant is noticed.
const maxNumber = 1000000000000

func badBases() []int {
	return []int{math.MinInt64, -16, -10, -2, -1, 0, 1, 17, 18, 36, 100, math.MaxInt64}
}

func badNumbers() []int {
	return []int{math.MinInt64, math.MinInt64 + 1, -maxNumber - 1, -maxNumber, -10, -2, -1, maxNumber + 1, maxNumber + 2, 2 * maxNumber, math.MaxInt64}
}

// someNumbers lists numbers from 0 to MaxNumber: the small ones, both ends, and those beside the powers of every base.
func someNumbers() []int {
	list := []int{123, 1200, 123456789, 999999999999, maxNumber - 2, maxNumber - 1, maxNumber, 0xdeadbeef, 0xe8d4a50fff}
	for n := range 1100 {
		list = append(list, n)
	}
	for b := 2; b <= 16; b++ {
		for p := b; p <= maxNumber; p *= b {
			list = append(list, p-1, p, min(p+1, maxNumber), min(7*p, maxNumber))
		}
	}
	for n := 987654321; n <= maxNumber; n = n*3 + 1 {
		list = append(list, n)
	}
	slices.Sort(list)
	return slices.Compact(list)
}

func textOf(n, b int) string { return big.NewInt(int64(n)).Text(b) }

// listOf turns a text of math/big into digits, the least place first.
func listOf(text string) []int {
	list := []int{}
	for i := len(text) - 1; i >= 0 && text != "0"; i-- {
		list = append(list, strings.Index("0123456789abcdef", text[i:i+1]))
	}
	return list
}

func sumOf(list []int) int {
	sum := 0
	for _, x := range list {
		sum += x
	}
	return sum
}

// listsOver lists every list of at most most of the given elements.
func listsOver(elements []int, most int) [][]int {
	all := [][]int{{}}
	from := 0
	for range most {
		end := len(all)
		for _, l := range all[from:end] {
			for _, e := range elements {
				all = append(all, append(slices.Clone(l), e))
			}
		}
		from = end
	}
	return all
}

func upTo(first, last int) []int {
	list := []int{}
	for n := first; n <= last; n++ {
		list = append(list, n)
	}
	return list
}

func TestDigitLimits(t *testing.T) {
	if impl.MaxBase != 16 || impl.MaxNumber != maxNumber || impl.MaxDigits != 60 {
		t.Errorf("the limits are %d, %d and %d", impl.MaxBase, impl.MaxNumber, impl.MaxDigits)
	}
}

func TestBaseOk(t *testing.T) {
	for b := 2; b <= 16; b++ {
		if !impl.BaseOk(b) {
			t.Errorf("BaseOk(%d) = false", b)
		}
	}
	for _, b := range badBases() {
		if impl.BaseOk(b) {
			t.Errorf("BaseOk(%d) = true", b)
		}
	}
}

func TestDigitsOk(t *testing.T) {
	cases := []struct {
		digits []int
		b      int
		want   bool
	}{
		{nil, 2, true}, {[]int{}, 16, true}, {nil, 1, false}, {nil, 0, false}, {nil, 17, false}, {nil, -2, false},
		{[]int{1}, 2, true}, {[]int{0}, 2, false}, {[]int{2}, 2, false}, {[]int{-1}, 2, false},
		{[]int{0, 1}, 2, true}, {[]int{1, 0}, 2, false}, {[]int{1, 2}, 2, false}, {[]int{2, 1}, 2, false}, {[]int{-1, 1}, 2, false},
		{[]int{0, 0, 0, 9}, 10, true}, {[]int{0, 10, 0, 9}, 10, false}, {[]int{0, 0}, 10, false}, {[]int{9, 9, 0}, 10, false},
		{[]int{15, 15}, 16, true}, {[]int{16, 1}, 16, false}, {[]int{1, 16}, 16, false}, {[]int{1}, 17, false}, {[]int{1}, 1, false},
		{[]int{math.MinInt64, 1}, 10, false}, {[]int{math.MaxInt64, 1}, 10, false}, {[]int{1, math.MaxInt64}, 10, false},
	}
	for _, c := range cases {
		if got := impl.DigitsOk(c.digits, c.b); got != c.want {
			t.Errorf("DigitsOk(%v, %d) = %v", c.digits, c.b, got)
		}
	}
	for b := 2; b <= 16; b++ {
		long := slices.Repeat([]int{b - 1}, 60)
		if !impl.DigitsOk(long, b) || impl.DigitsOk(append(long, 1), b) || impl.DigitsOk(slices.Repeat(long, 50), b) {
			t.Errorf("DigitsOk in base %d does not end at 60 digits", b)
		}
		for i := range 60 {
			for _, wrong := range []int{-1, b} {
				list := slices.Clone(long)
				list[i] = wrong
				if impl.DigitsOk(list, b) {
					t.Errorf("DigitsOk in base %d with %d at %d", b, wrong, i)
				}
			}
		}
	}
}

// Each number below b^most is written in one way: the lists of at most most digits are those of these numbers, and no others.
func TestEachNumberHasOneListOfDigits(t *testing.T) {
	for b := 2; b <= 16; b++ {
		most := 3
		if b == 2 {
			most = 6
		}
		end := 1
		for range most {
			end *= b
		}
		written := map[string]int{}
		for n := range end {
			written[textOf(n, b)] = n
		}
		count := 0
		for _, list := range listsOver(upTo(-1, b), most) {
			n, ok := impl.ValueOf(list, b)
			text := impl.FormatDigits(list, b)
			if !impl.DigitsOk(list, b) {
				if ok || n != 0 || text != "" {
					t.Errorf("%v in base %d has the value %d, %v and the text %q", list, b, n, ok, text)
				}
				continue
			}
			count++
			if want, there := written[text]; !there || !ok || n != want || !slices.Equal(impl.DigitsOf(n, b), list) {
				t.Errorf("%v in base %d has the value %d, %v, the text %q and the digits %v", list, b, n, ok, text, impl.DigitsOf(n, b))
			}
		}
		if count != end {
			t.Errorf("in base %d there are %d lists of at most %d digits, want %d", b, count, most, end)
		}
	}
}

func TestDigitsOfNumbers(t *testing.T) {
	for _, n := range someNumbers() {
		for b := 2; b <= 16; b++ {
			text := textOf(n, b)
			list := listOf(text)
			digits := impl.DigitsOf(n, b)
			if !slices.Equal(digits, list) || !impl.DigitsOk(digits, b) {
				t.Fatalf("DigitsOf(%d, %d) = %v, want %v", n, b, digits, list)
			}
			if value, ok := impl.ValueOf(list, b); !ok || value != n {
				t.Errorf("ValueOf(%v, %d) = %d, %v, want %d", list, b, value, ok, n)
			}
			if got := impl.CountDigits(n, b); got != len(list) {
				t.Errorf("CountDigits(%d, %d) = %d, want %d", n, b, got, len(list))
			}
			if got := impl.DigitSum(n, b); got != sumOf(list) {
				t.Errorf("DigitSum(%d, %d) = %d, want %d", n, b, got, sumOf(list))
			}
			if got := impl.FormatDigits(list, b); got != text {
				t.Errorf("FormatDigits(%v, %d) = %q, want %q", list, b, got, text)
			}
			if got, ok := impl.ParseDigits(text, b); !ok || !slices.Equal(got, list) {
				t.Errorf("ParseDigits(%q, %d) = %v, %v", text, b, got, ok)
			}
			for k := range 60 {
				want := 0
				if k < len(list) {
					want = list[k]
				}
				if got := impl.DigitAt(n, b, k); got != want {
					t.Errorf("DigitAt(%d, %d, %d) = %d, want %d", n, b, k, got, want)
				}
			}
		}
	}
}

func TestNoDigits(t *testing.T) {
	check := func(n, b int) {
		if got := impl.DigitsOf(n, b); got != nil {
			t.Errorf("DigitsOf(%d, %d) = %v", n, b, got)
		}
		if got := impl.CountDigits(n, b); got != -1 {
			t.Errorf("CountDigits(%d, %d) = %d", n, b, got)
		}
		if got := impl.DigitSum(n, b); got != -1 {
			t.Errorf("DigitSum(%d, %d) = %d", n, b, got)
		}
		for _, k := range []int{-1, 0, 1, 59, 60} {
			if got := impl.DigitAt(n, b, k); got != -1 {
				t.Errorf("DigitAt(%d, %d, %d) = %d", n, b, k, got)
			}
		}
		if got, ok := impl.ReverseNumber(n, b); ok || got != 0 {
			t.Errorf("ReverseNumber(%d, %d) = %d, %v", n, b, got, ok)
		}
	}
	for _, n := range badNumbers() {
		for b := 2; b <= 16; b++ {
			check(n, b)
		}
	}
	for _, b := range badBases() {
		for _, n := range append(badNumbers(), 0, 1, 10, 123, maxNumber) {
			check(n, b)
		}
	}
}

func TestDigitAtBeyondTheIndices(t *testing.T) {
	for _, n := range []int{0, 1, 123, maxNumber} {
		for b := 2; b <= 16; b++ {
			for _, k := range []int{math.MinInt64, -60, -1, 60, 61, 1000, math.MaxInt64} {
				if got := impl.DigitAt(n, b, k); got != -1 {
					t.Errorf("DigitAt(%d, %d, %d) = %d", n, b, k, got)
				}
			}
		}
	}
}

func TestValueOfGreatNumbers(t *testing.T) {
	for b := 2; b <= 16; b++ {
		for _, over := range []int{maxNumber + 1, maxNumber + b, 2 * maxNumber, 16 * maxNumber, math.MaxInt64} {
			list := listOf(textOf(over, b))
			if n, ok := impl.ValueOf(list, b); ok || n != 0 {
				t.Errorf("ValueOf(%v, %d) = %d, %v", list, b, n, ok)
			}
		}
		// Powers of two that wrap an int around to 0 or to small numbers.
		for count := 1; count <= 62; count++ {
			list := append(make([]int, count-1), 1)
			exact := new(big.Int).Exp(big.NewInt(int64(b)), big.NewInt(int64(count-1)), nil)
			good := count <= 60 && exact.Cmp(big.NewInt(maxNumber)) <= 0
			want := 0
			if good {
				want = int(exact.Int64())
			}
			if n, ok := impl.ValueOf(list, b); ok != good || n != want {
				t.Errorf("ValueOf of 1 and %d zeros in base %d = %d, %v", count-1, b, n, ok)
			}
		}
		for count := range 62 {
			list := slices.Repeat([]int{b - 1}, count)
			exact := new(big.Int).Exp(big.NewInt(int64(b)), big.NewInt(int64(count)), nil)
			good := exact.Cmp(big.NewInt(maxNumber+1)) <= 0
			if n, ok := impl.ValueOf(list, b); ok != good || good && n != int(exact.Int64())-1 || !good && n != 0 {
				t.Errorf("ValueOf of %d digits %d in base %d = %d, %v", count, b-1, b, n, ok)
			}
		}
	}
}

func TestValueOfRefusesOtherLists(t *testing.T) {
	cases := []struct {
		digits []int
		b      int
	}{
		{nil, 1}, {nil, 17}, {[]int{1}, 1}, {[]int{1}, 17}, {[]int{0}, 10}, {[]int{1, 0}, 10}, {[]int{10}, 10}, {[]int{-1, 1}, 10},
		{[]int{1, 10}, 10}, {[]int{10, 1}, 10}, {[]int{16}, 16}, {[]int{2}, 2}, {make([]int, 60), 10}, {[]int{1, -1}, 2},
	}
	for _, c := range cases {
		if n, ok := impl.ValueOf(c.digits, c.b); ok || n != 0 {
			t.Errorf("ValueOf(%v, %d) = %d, %v", c.digits, c.b, n, ok)
		}
		if text := impl.FormatDigits(c.digits, c.b); text != "" {
			t.Errorf("FormatDigits(%v, %d) = %q", c.digits, c.b, text)
		}
	}
}

func TestReverseNumber(t *testing.T) {
	cases := []struct {
		n, b, want int
		ok         bool
	}{
		{0, 10, 0, true}, {0, 2, 0, true}, {7, 10, 7, true}, {10, 10, 1, true}, {100, 10, 1, true}, {123, 10, 321, true}, {1200, 10, 21, true},
		{1020, 10, 201, true}, {maxNumber, 10, 1, true}, {999999999999, 10, 999999999999, true}, {299999999998, 10, 899999999992, true},
		{6, 2, 3, true}, {8, 2, 1, true}, {11, 2, 13, true}, {0x1f, 16, 0xf1, true}, {0x1f0, 16, 0xf1, true},
		// The reversed number can be greater than MaxNumber where b^k is not a power of ten.
		{0x100000000f, 16, 0, false}, {0x100000000e, 16, 0xe000000001, true}, {0xe8d4a51000, 16, 0x15a4d8e, true},
		{0x00015a4d8e, 16, 0xe8d4a51, true}, {0x1015a4d8ee, 16, 0, false}, {0x100000e8d4, 16, 0x4d8e000001, true},
	}
	for _, c := range cases {
		if got, ok := impl.ReverseNumber(c.n, c.b); got != c.want || ok != c.ok {
			t.Errorf("ReverseNumber(%d, %d) = %d, %v, want %d, %v", c.n, c.b, got, ok, c.want, c.ok)
		}
	}
}

func TestReverseNumberOfNumbers(t *testing.T) {
	refused := 0
	for _, n := range someNumbers() {
		for b := 2; b <= 16; b++ {
			text := []byte(textOf(n, b))
			slices.Reverse(text)
			exact, _ := new(big.Int).SetString(string(text), b)
			good := exact.Cmp(big.NewInt(maxNumber)) <= 0
			want := 0
			if good {
				want = int(exact.Int64())
			} else {
				refused++
			}
			if got, ok := impl.ReverseNumber(n, b); got != want || ok != good {
				t.Errorf("ReverseNumber(%d, %d) = %d, %v, want %d, %v", n, b, got, ok, want, good)
			}
		}
	}
	if refused == 0 {
		t.Error("no number was refused")
	}
}

func TestReverseNumberAtTheLimit(t *testing.T) {
	for b := 2; b <= 16; b++ {
		for n := maxNumber - 40; n <= maxNumber+40; n++ {
			text := []byte(textOf(n, b))
			if text[len(text)-1] == '0' {
				continue
			}
			slices.Reverse(text)
			mirror, _ := new(big.Int).SetString(string(text), b)
			if mirror.Cmp(big.NewInt(maxNumber)) > 0 {
				continue
			}
			got, ok := impl.ReverseNumber(int(mirror.Int64()), b)
			if good := n <= maxNumber; ok != good || good && got != n || !good && got != 0 {
				t.Errorf("ReverseNumber(%v, %d) = %d, %v, its digits in reverse order are those of %d", mirror, b, got, ok, n)
			}
		}
	}
}

func TestFormatDigits(t *testing.T) {
	cases := []struct {
		digits []int
		b      int
		want   string
	}{
		{nil, 2, "0"}, {[]int{}, 16, "0"}, {nil, 1, ""}, {nil, 17, ""}, {nil, -10, ""},
		{[]int{0}, 10, ""}, {[]int{1}, 2, "1"}, {[]int{15, 1}, 16, "1f"}, {[]int{3, 2, 1}, 10, "123"},
		{[]int{0, 0, 1}, 2, "100"}, {[]int{0, 1, 2, 3, 4, 5, 6, 7, 8, 9, 10, 11, 12, 13, 14, 15}, 16, "fedcba9876543210"},
		{[]int{10}, 10, ""}, {[]int{10}, 11, "a"}, {[]int{1, 0}, 10, ""}, {[]int{-1}, 10, ""}, {[]int{16}, 16, ""},
		{slices.Repeat([]int{15}, 60), 16, strings.Repeat("f", 60)}, {slices.Repeat([]int{15}, 61), 16, ""},
		{append(make([]int, 59), 1), 2, "1" + strings.Repeat("0", 59)}, {append(make([]int, 60), 1), 2, ""},
	}
	for _, c := range cases {
		if got := impl.FormatDigits(c.digits, c.b); got != c.want {
			t.Errorf("FormatDigits(%v, %d) = %q, want %q", c.digits, c.b, got, c.want)
		}
	}
}

func TestParseDigits(t *testing.T) {
	cases := []struct {
		text string
		b    int
		want []int
		ok   bool
	}{
		{"0", 2, nil, true}, {"0", 10, nil, true}, {"0", 16, nil, true}, {"0", 1, nil, false}, {"0", 17, nil, false}, {"0", -2, nil, false},
		{"", 10, nil, false}, {"", 2, nil, false}, {"", 1, nil, false}, {"00", 10, nil, false}, {"01", 10, nil, false}, {"000", 2, nil, false},
		{"1", 2, []int{1}, true}, {"2", 2, nil, false}, {"12", 2, nil, false}, {"21", 2, nil, false}, {"100", 2, []int{0, 0, 1}, true},
		{"123", 10, []int{3, 2, 1}, true}, {"12a", 10, nil, false}, {"a12", 10, nil, false}, {"a", 11, []int{10}, true}, {"b", 11, nil, false},
		{"1f", 16, []int{15, 1}, true}, {"1F", 16, nil, false}, {"F1", 16, nil, false}, {"A", 16, nil, false}, {"g", 16, nil, false}, {"1g", 16, nil, false},
		{"-1", 10, nil, false}, {"+1", 10, nil, false}, {" 1", 10, nil, false}, {"1 ", 10, nil, false}, {"1\n", 10, nil, false}, {"1.0", 10, nil, false},
		{"0x1f", 16, nil, false}, {"1_0", 10, nil, false}, {"\x00", 10, nil, false}, {"1\x00", 10, nil, false},
		{"\xff", 16, nil, false}, {"1\xff", 16, nil, false}, {"\xff1", 16, nil, false}, {"1\xb1", 16, nil, false},
		{"\u0661", 10, nil, false}, {"1\uff11", 10, nil, false}, {"\ufffd", 16, nil, false}, {"1\u0130", 16, nil, false},
		{"1", 1, nil, false}, {"1", 0, nil, false}, {"1", 17, nil, false}, {"1", math.MinInt64, nil, false}, {"1", math.MaxInt64, nil, false},
		{strings.Repeat("7", 60), 8, slices.Repeat([]int{7}, 60), true}, {strings.Repeat("7", 61), 8, nil, false}, {strings.Repeat("7", 5000), 8, nil, false},
		{"0" + strings.Repeat("7", 59), 8, nil, false}, {strings.Repeat("0", 60), 8, nil, false}, {strings.Repeat("0", 61), 8, nil, false},
	}
	for _, c := range cases {
		if got, ok := impl.ParseDigits(c.text, c.b); ok != c.ok || !slices.Equal(got, c.want) {
			t.Errorf("ParseDigits(%q, %d) = %v, %v, want %v, %v", c.text, c.b, got, ok, c.want, c.ok)
		}
	}
}

func TestParseDigitsOfEveryByte(t *testing.T) {
	for b := 2; b <= 16; b++ {
		for c := range 256 {
			text := string([]byte{byte(c)})
			digit := strings.Index("0123456789abcdef"[:b], text)
			for _, s := range []struct {
				text string
				want []int
				ok   bool
			}{
				{text, []int{digit}, digit > 0},
				{"1" + text, []int{digit, 1}, digit >= 0},
				{text + "1", []int{1, digit}, digit > 0},
				{"10" + text + "1", []int{1, digit, 0, 1}, digit >= 0},
			} {
				if s.text == "0" {
					continue
				}
				got, ok := impl.ParseDigits(s.text, b)
				if ok != s.ok || ok && !slices.Equal(got, s.want) || !ok && len(got) != 0 {
					t.Errorf("ParseDigits(%q, %d) = %v, %v", s.text, b, got, ok)
				}
			}
		}
	}
}

func TestParseDigitsReadsWhatFormatDigitsWrites(t *testing.T) {
	for b := 2; b <= 16; b++ {
		for count := range 61 {
			list := make([]int, count)
			for i := range list {
				list[i] = (i*i + 3*count + 1) % b
			}
			if count > 0 {
				list[count-1] = 1 + count%(b-1)
			}
			text := impl.FormatDigits(list, b)
			if got, ok := impl.ParseDigits(text, b); !ok || !slices.Equal(got, list) || count > 0 && len(text) != count {
				t.Errorf("ParseDigits(%q, %d) = %v, %v, want %v", text, b, got, ok, list)
			}
		}
	}
}

func TestDigitFunctionsLeaveTheirArguments(t *testing.T) {
	store := []int{1, 2, 3, 7, 7}
	impl.DigitsOk(store[:3], 10)
	impl.ValueOf(store[:3], 10)
	impl.FormatDigits(store[:3], 10)
	if !slices.Equal(store, []int{1, 2, 3, 7, 7}) {
		t.Errorf("the argument and what is behind it are %v", store)
	}
}

func TestDigitResultsAreNew(t *testing.T) {
	for _, f := range []func() []int{
		func() []int { return impl.DigitsOf(321, 10) },
		func() []int { d, _ := impl.ParseDigits("321", 10); return d },
	} {
		first := f()
		first[0] = 9
		_ = append(first, 9)
		if second := f(); !slices.Equal(second, []int{1, 2, 3}) {
			t.Errorf("a second call returns %v", second)
		}
	}
}
