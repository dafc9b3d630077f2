package impl

import (
	"strconv"
	"strings"
)

const (
	maxNameBytes = 8
	maxPadBytes  = 2000
)

func FormatInt(n int) string { return strconv.Itoa(n) }

func ParseInt(s string) (int, bool) {
	n, err := strconv.Atoi(s)
	// Atoi also accepts a plus sign, leading zeros and -0, which FormatInt never writes.
	if err != nil || FormatInt(n) != s {
		return 0, false
	}
	return n, true
}

func isDigit(r rune) bool { return r >= '0' && r <= '9' }

func isSmallLetter(r rune) bool { return r >= 'a' && r <= 'z' }

func IsDigits(s string) bool {
	for _, r := range s {
		if !isDigit(r) {
			return false
		}
	}
	return s != ""
}

func IsName(s string) bool {
	if s == "" || len(s) > maxNameBytes {
		return false
	}
	for i, r := range s {
		if !isSmallLetter(r) && (i == 0 || !isDigit(r)) {
			return false
		}
	}
	return true
}

// SplitAny looks at bytes, not runes: a separator may be a part of a longer rune.
func SplitAny(s string, by string) []string {
	var parts []string
	start := 0
	for i := 0; i < len(s); i++ {
		if strings.IndexByte(by, s[i]) >= 0 {
			parts = append(parts, s[start:i])
			start = i + 1
		}
	}
	return append(parts, s[start:])
}

func SplitLines(s string) []string {
	lines := SplitAny(s, "\n")
	last := len(lines) - 1
	// What follows the last newline is a line only if there is something.
	if lines[last] == "" {
		return lines[:last]
	}
	return lines
}

func Join(l []string, by string) string { return joinParts(by, l...) }

func joinParts(by string, parts ...string) string {
	return strings.Join(parts, by)
}

func PadZeros(s string, n int) string {
	if len(s) >= n || n > maxPadBytes {
		return s
	}
	return joinParts("", strings.Repeat("0", n-len(s)), s)
}
