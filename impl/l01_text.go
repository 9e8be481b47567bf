package impl

import (
	"strconv"
	"strings"
)

const (
	maxName    = 8
	maxPadding = 2000
)

func FormatInt(n int) string { return strconv.Itoa(n) }

func ParseInt(s string) (int, bool) {
	n, err := strconv.Atoi(s)
	// Atoi also accepts what FormatInt never writes: a plus sign, leading zeros and -0.
	if err != nil || FormatInt(n) != s {
		return 0, false
	}
	return n, true
}

func isDigit(r rune) bool { return '0' <= r && r <= '9' }

func isLetter(r rune) bool { return 'a' <= r && r <= 'z' }

func IsDigits(s string) bool {
	// Runes serve for arbitrary bytes too: those from 128 on, alone or together, never make a rune below 128.
	for _, r := range s {
		if !isDigit(r) {
			return false
		}
	}
	return s != ""
}

func IsName(s string) bool {
	if s == "" || len(s) > maxName {
		return false
	}
	for i, r := range s {
		if !isLetter(r) && (i == 0 || !isDigit(r)) {
			return false
		}
	}
	return true
}

func SplitAny(s string, by string) []string {
	// Single bytes count here, even those that are a part of a longer rune.
	var separates [256]bool
	for i := range len(by) {
		separates[by[i]] = true
	}
	var parts []string
	start := 0
	for i := range len(s) {
		if separates[s[i]] {
			parts = append(parts, s[start:i])
			start = i + 1
		}
	}
	return append(parts, s[start:])
}

func SplitLines(s string) []string {
	lines := SplitAny(s, "\n")
	last := len(lines) - 1
	if lines[last] == "" {
		return lines[:last]
	}
	return lines
}

func joinAll(by string, parts ...string) string { return strings.Join(parts, by) }

func Join(l []string, by string) string { return joinAll(by, l...) }

func PadZeros(s string, n int) string {
	if len(s) >= n || n > maxPadding {
		return s
	}
	return strings.Repeat("0", n-len(s)) + s
}
