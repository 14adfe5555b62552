package tests

import (
	"math"
	"math/big"
	"regexp"
	"slices"
	"strings"
	"testing"

	"loop.example/g03203/impl"
)

// textsOver lists every text of at most most of the given pieces.
func textsOver(pieces []string, most int) []string {
	all := []string{""}
	from := 0
	for range most {
		end := len(all)
		for _, t := range all[from:end] {
			for _, p := range pieces {
				all = append(all, t+p)
			}
		}
		from = end
	}
	return all
}

func edgeInts() []int {
	list := []int{math.MinInt64, math.MinInt64 + 1, math.MaxInt64, math.MaxInt64 - 1}
	for n := -1100; n <= 1100; n++ {
		list = append(list, n)
	}
	for p := 10; p < math.MaxInt64/10; p *= 10 {
		list = append(list, p-1, p, p+1, -p+1, -p, -p-1)
	}
	for k := 10; k < 63; k++ {
		list = append(list, 1<<k-1, 1<<k, -(1 << k), -(1<<k)-1)
	}
	return list
}

func TestFormatInt(t *testing.T) {
	cases := []struct {
		n    int
		want string
	}{
		{0, "0"}, {7, "7"}, {-7, "-7"}, {10, "10"}, {-10, "-10"}, {1000000000000, "1000000000000"},
		{math.MaxInt64, "9223372036854775807"}, {math.MinInt64, "-9223372036854775808"},
	}
	for _, c := range cases {
		if got := impl.FormatInt(c.n); got != c.want {
			t.Errorf("FormatInt(%d) = %q, want %q", c.n, got, c.want)
		}
	}
	for _, n := range edgeInts() {
		if got, want := impl.FormatInt(n), big.NewInt(int64(n)).String(); got != want {
			t.Errorf("FormatInt(%d) = %q, want %q", n, got, want)
		}
	}
}

func TestParseIntReadsWhatFormatIntWrites(t *testing.T) {
	for _, n := range edgeInts() {
		if got, ok := impl.ParseInt(big.NewInt(int64(n)).String()); !ok || got != n {
			t.Errorf("ParseInt of the text of %d = %d, %v", n, got, ok)
		}
	}
}

func TestParseIntRefusesOtherTexts(t *testing.T) {
	texts := []string{
		"", "-", "+", "+1", "+0", "-0", "00", "01", "007", "-01", "--1", "1-", "-+1", " 1", "1 ", "1\n", "\t1", "1,0", "1.0", "1e3",
		"1_000", "0x10", "0b1", "0o7", "abc", "1a", "a1", "1\x00", "\xff", "1\xff", "\xff1", "\u0661", "\uff11", "\u22121", "-\u0661",
		"9223372036854775808", "-9223372036854775809", "9223372036854775810", "09223372036854775807", "-09223372036854775808",
		"18446744073709551615", "18446744073709551616", "18446744073709551617", "-18446744073709551615", "-18446744073709551617",
		"99999999999999999999", strings.Repeat("9", 5000), "-" + strings.Repeat("1", 5000), strings.Repeat("0", 5000), "0" + strings.Repeat("0", 30) + "5",
	}
	for _, s := range texts {
		if n, ok := impl.ParseInt(s); ok || n != 0 {
			t.Errorf("ParseInt(%.40q) = %d, %v, want 0, false", s, n, ok)
		}
	}
}

func TestParseIntOfAllShortTexts(t *testing.T) {
	written := regexp.MustCompile(`^(0|-?[1-9][0-9]*)$`)
	for _, s := range textsOver([]string{"-", "+", "0", "1", "9", "_", " ", "x", "\xff"}, 5) {
		want := 0
		good := written.MatchString(s)
		if good {
			b, _ := new(big.Int).SetString(s, 10)
			want = int(b.Int64())
		}
		if n, ok := impl.ParseInt(s); ok != good || n != want {
			t.Errorf("ParseInt(%q) = %d, %v, want %d, %v", s, n, ok, want, good)
		}
	}
}

func TestIsDigits(t *testing.T) {
	good := []string{"0", "9", "00", "0123456789", "99999999999999999999", strings.Repeat("5", 3000)}
	bad := []string{"", "-1", "+1", " 1", "1 ", "1\n", "1.5", "a", "1a", "a1", "/", ":", "\u0661", "1\uff12", "\xff", "12\xb1", "1\xff2", "\x00"}
	for _, s := range good {
		if !impl.IsDigits(s) {
			t.Errorf("IsDigits(%.40q) = false", s)
		}
	}
	for _, s := range bad {
		if impl.IsDigits(s) {
			t.Errorf("IsDigits(%q) = true", s)
		}
	}
	for c := range 256 {
		b := string([]byte{byte(c)})
		want := c >= 48 && c <= 57
		if impl.IsDigits(b) != want || impl.IsDigits("7"+b) != want || impl.IsDigits(b+"7") != want {
			t.Errorf("IsDigits with the byte %d is not %v", c, want)
		}
	}
}

func TestIsName(t *testing.T) {
	good := []string{"a", "z", "a0", "z9", "abc", "x1y2z3", "abcdefgh", "a1234567", "zzzzzzzz"}
	bad := []string{
		"", "0", "9a", "A", "aB", "a_", "a-b", " a", "a ", "a\n", "abcdefghi", "a12345678", "aaaaaaaaa", strings.Repeat("a", 3000),
		"\u00e9", "a\u00e9", "\u00df", "a\u0661", "\xff", "a\xff", "a\x00", "abcdefg\u00e9", "`", "{", "a`", "a{", "a/", "a:",
	}
	for _, s := range good {
		if !impl.IsName(s) {
			t.Errorf("IsName(%q) = false", s)
		}
	}
	for _, s := range bad {
		if impl.IsName(s) {
			t.Errorf("IsName(%.40q) = true", s)
		}
	}
	for c := range 256 {
		b := string([]byte{byte(c)})
		letter := c >= 97 && c <= 122
		digit := c >= 48 && c <= 57
		if impl.IsName(b) != letter || impl.IsName(b+"q") != letter {
			t.Errorf("IsName that begins with the byte %d is not %v", c, letter)
		}
		if impl.IsName("q"+b) != (letter || digit) || impl.IsName("qqqqqqq"+b) != (letter || digit) {
			t.Errorf("IsName that ends with the byte %d is not %v", c, letter || digit)
		}
	}
}

func TestSplitAny(t *testing.T) {
	cases := []struct {
		s, by string
		want  []string
	}{
		{"", "", []string{""}},
		{"", ",", []string{""}},
		{"abc", "", []string{"abc"}},
		{"abc", ",", []string{"abc"}},
		{"a,b c", ", ", []string{"a", "b", "c"}},
		{",", ",", []string{"", ""}},
		{",a,", ",", []string{"", "a", ""}},
		{"a,,b", ",", []string{"a", "", "b"}},
		{", ,", ", ", []string{"", "", "", ""}},
		{"a,b", ",,,", []string{"a", "b"}},
		{"ab", "ba", []string{"", "", ""}},
		{"a\nb\n", "\n", []string{"a", "b", ""}},
		{"a\x00b", "\x00", []string{"a", "b"}},
		// Separators are bytes: those of a longer character split one by one, and inside other characters.
		{"\u00e9", "\xc3", []string{"", "\xa9"}},
		{"\xa9x\xc3", "\u00e9", []string{"", "x", ""}},
		{"a\u00e9b", "\u00e9", []string{"a", "", "b"}},
		{"\u00e8", "\u00e9", []string{"", "\xa8"}},
		{"\xff\xfe", "\xff", []string{"", "\xfe"}},
		{"a\xff", "\ufffd", []string{"a\xff"}},
		{"\ufffd", "\xff", []string{"\ufffd"}},
		{"x\xff,y", ",", []string{"x\xff", "y"}},
	}
	for _, c := range cases {
		if got := impl.SplitAny(c.s, c.by); !slices.Equal(got, c.want) {
			t.Errorf("SplitAny(%q, %q) = %q, want %q", c.s, c.by, got, c.want)
		}
	}
}

// split is the definition: it looks at one byte after another.
func split(s, by string) []string {
	parts := []string{""}
	for i := 0; i < len(s); i++ {
		if strings.IndexByte(by, s[i]) >= 0 {
			parts = append(parts, "")
		} else {
			parts[len(parts)-1] += s[i : i+1]
		}
	}
	return parts
}

func TestSplitAnyOfAllShortTexts(t *testing.T) {
	for _, s := range textsOver([]string{"a", ",", " ", "\xc3", "\u00e9", "\xff"}, 4) {
		for _, by := range []string{"", ",", " ,", "a", "\xc3", "\xa9", "\u00e9", "\xff,", "\ufffd"} {
			got := impl.SplitAny(s, by)
			if !slices.Equal(got, split(s, by)) {
				t.Errorf("SplitAny(%q, %q) = %q, want %q", s, by, got, split(s, by))
			}
			if len(by) == 1 && impl.Join(got, by) != s {
				t.Errorf("Join of SplitAny(%q, %q) is %q", s, by, impl.Join(got, by))
			}
		}
	}
}

func TestSplitAnyOfEveryByte(t *testing.T) {
	for c := range 256 {
		b := string([]byte{byte(c)})
		if got := impl.SplitAny("--"+b+"--", b); c != '-' && !slices.Equal(got, []string{"--", "--"}) {
			t.Errorf("SplitAny at the byte %d = %q", c, got)
		}
	}
}

func TestSplitLines(t *testing.T) {
	cases := []struct {
		s    string
		want []string
	}{
		{"", nil},
		{"a", []string{"a"}},
		{"a\n", []string{"a"}},
		{"a\nb", []string{"a", "b"}},
		{"a\nb\n", []string{"a", "b"}},
		{"\n", []string{""}},
		{"\n\n", []string{"", ""}},
		{"\na", []string{"", "a"}},
		{"a\n\n", []string{"a", ""}},
		{"a\n\nb\n", []string{"a", "", "b"}},
		{"a\n ", []string{"a", " "}},
		{"a\r\nb\r", []string{"a\r", "b\r"}},
		{"\u2028a\x0b\x0c\u0085", []string{"\u2028a\x0b\x0c\u0085"}},
		{"\xff\n\xc3", []string{"\xff", "\xc3"}},
	}
	for _, c := range cases {
		if got := impl.SplitLines(c.s); !slices.Equal(got, c.want) {
			t.Errorf("SplitLines(%q) = %q, want %q", c.s, got, c.want)
		}
	}
}

func TestSplitLinesOfAllShortTexts(t *testing.T) {
	for _, s := range textsOver([]string{"a", "\n", "\r", " ", "\xff"}, 5) {
		lines := impl.SplitLines(s)
		ended := ""
		for _, l := range lines {
			ended += l + "\n"
		}
		want := s
		if s != "" && !strings.HasSuffix(s, "\n") {
			want += "\n"
		}
		if ended != want || len(lines) != strings.Count(want, "\n") {
			t.Errorf("SplitLines(%q) = %q", s, lines)
		}
	}
}

func TestJoin(t *testing.T) {
	cases := []struct {
		l    []string
		by   string
		want string
	}{
		{nil, ",", ""},
		{[]string{}, ",", ""},
		{[]string{""}, ",", ""},
		{[]string{"a"}, ",", "a"},
		{[]string{"a", "b", "c"}, ",", "a,b,c"},
		{[]string{"a", "b"}, "", "ab"},
		{[]string{"a", "b"}, ", ", "a, b"},
		{[]string{"", "", ""}, "-", "--"},
		{[]string{"", "a", ""}, ",", ",a,"},
		{[]string{"a,b", "c"}, ",", "a,b,c"},
		{[]string{"\xc3", "\xff"}, "\xa9", "\xc3\xa9\xff"},
		{[]string{"x", "y"}, "\x00", "x\x00y"},
	}
	for _, c := range cases {
		if got := impl.Join(c.l, c.by); got != c.want {
			t.Errorf("Join(%q, %q) = %q, want %q", c.l, c.by, got, c.want)
		}
	}
	long := slices.Repeat([]string{"ab"}, 5000)
	if got := impl.Join(long, ";"); got != strings.Repeat("ab;", 4999)+"ab" {
		t.Errorf("Join of 5000 texts has %d bytes", len(got))
	}
}

func TestPadZeros(t *testing.T) {
	cases := []struct {
		s    string
		n    int
		want string
	}{
		{"", 0, ""},
		{"", 1, "0"},
		{"", 3, "000"},
		{"7", 3, "007"},
		{"7", 1, "7"},
		{"7", 0, "7"},
		{"7", -1, "7"},
		{"", -1, ""},
		{"", math.MinInt64, ""},
		{"123", 2, "123"},
		{"123", 3, "123"},
		{"123", 4, "0123"},
		{"-7", 3, "0-7"},
		{"x y", 5, "00x y"},
		{"\u00e9", 2, "\u00e9"},
		{"\u00e9", 3, "0\u00e9"},
		{"\xff", 2, "0\xff"},
		{"7", 2001, "7"},
		{"", 2001, ""},
		{"7", 1000000, "7"},
		{"7", math.MaxInt64, "7"},
	}
	for _, c := range cases {
		if got := impl.PadZeros(c.s, c.n); got != c.want {
			t.Errorf("PadZeros(%q, %d) = %q, want %q", c.s, c.n, got, c.want)
		}
	}
}

func TestPadZerosOfAllLengths(t *testing.T) {
	for _, size := range []int{0, 1, 1000, 1998, 1999, 2000, 2001, 2002, 4000} {
		s := strings.Repeat("5", size)
		for n := -1; n <= 2010; n++ {
			want := s
			if n <= 2000 {
				for len(want) < n {
					want = strings.Repeat("0", n-len(want)) + want
				}
			}
			if impl.PadZeros(s, n) != want {
				t.Errorf("PadZeros of %d bytes to %d has %d bytes", size, n, len(impl.PadZeros(s, n)))
			}
		}
	}
}

func TestJoinLeavesItsArgumentAsItWas(t *testing.T) {
	store := []string{"a", "b", "c", "spare", "spare"}
	impl.Join(store[:3], ",")
	if !slices.Equal(store, []string{"a", "b", "c", "spare", "spare"}) {
		t.Errorf("after Join the argument and what is behind it are %q", store)
	}
}

func TestSplitResultsAreNew(t *testing.T) {
	for _, f := range []func() []string{
		func() []string { return impl.SplitAny("a,b", ",") },
		func() []string { return impl.SplitLines("a\nb\n") },
	} {
		first := f()
		first[0] = "changed"
		_ = append(first, "more")
		if second := f(); !slices.Equal(second, []string{"a", "b"}) {
			t.Errorf("a second call returns %q", second)
		}
	}
}
