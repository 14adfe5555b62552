package impl

import (
	"strconv"
	"strings"
)

const maxNameBytes = 8
const maxPadded = 2000

func FormatInt(n int) string { return strconv.Itoa(n) }

func ParseInt(s string) (int, bool) {
	n, err := strconv.Atoi(s)
	// Atoi also reads texts that FormatInt never writes: "+7", "-0", "007".
	if err != nil || FormatInt(n) != s {
		return 0, false
	}
	return n, true
}

// A byte that is not valid UTF-8 is ranged over as the replacement character,
// which is neither a digit nor a letter.
func isDigitRune(r rune) bool { return '0' <= r && r <= '9' }

func isLetterRune(r rune) bool { return 'a' <= r && r <= 'z' }

func IsDigits(s string) bool {
	for _, r := range s {
		if !isDigitRune(r) {
			return false
		}
	}
	return s != ""
}

func IsName(s string) bool {
	if s == "" || len(s) > maxNameBytes {
		return false
	}
	for i, r := range s {
		if !isLetterRune(r) && (i == 0 || !isDigitRune(r)) {
			return false
		}
	}
	return true
}

func SplitAny(s string, by string) []string {
	// Bytes, not runes: a separator can be one byte of a longer character.
	var cuts [256]bool
	for i := range len(by) {
		cuts[by[i]] = true
	}
	parts := []string{}
	start := 0
	for i := range len(s) {
		if cuts[s[i]] {
			parts = append(parts, s[start:i])
			start = i + 1
		}
	}
	return append(parts, s[start:])
}

func SplitLines(s string) []string {
	lines := SplitAny(s, "\n")
	last := len(lines) - 1
	if lines[last] == "" {
		return lines[:last]
	}
	return lines
}

func joinTexts(by string, texts ...string) string {
	var b strings.Builder
	for i, t := range texts {
		if i > 0 {
			b.WriteString(by)
		}
		b.WriteString(t)
	}
	return b.String()
}

func Join(l []string, by string) string { return joinTexts(by, l...) }

func PadZeros(s string, n int) string {
	if len(s) >= n || n > maxPadded {
		return s
	}
	return joinTexts("", strings.Repeat("0", n-len(s)), s)
}
