package impl

import (
	"iter"
	"strconv"
	"strings"
)

const MaxText = 6000

const (
	blanks        = " \t"
	lowHex        = "0123456789abcdef"
	mostIntDigits = 18
	mostHexDigits = 8
)

func DecText(n int) string { return strconv.Itoa(n) }

func ReadInt(s string) (int, bool) {
	digits, negative := cutSign(s)
	n, ok := readDigits(digits, 10, mostIntDigits)
	if negative {
		n = -n
	}
	return n, ok
}

func cutSign(s string) (string, bool) {
	if digits, negative := strings.CutPrefix(s, "-"); negative {
		return digits, true
	}
	return strings.TrimPrefix(s, "+"), false
}

func readDigits(s string, base int, most int) (int, bool) {
	if len(s) < 1 || len(s) > most {
		return 0, false
	}
	n := 0
	// Going by runes is safe here: whatever is not ASCII, valid or not,
	// comes as a rune from 128 on, which is no digit.
	for _, r := range s {
		d := digitValue(r)
		if d < 0 || d >= base {
			return 0, false
		}
		n = n*base + d
	}
	return n, true
}

func digitValue(r rune) int {
	switch {
	case '0' <= r && r <= '9':
		return int(r - '0')
	case 'a' <= r && r <= 'f':
		return int(r-'a') + 10
	case 'A' <= r && r <= 'F':
		return int(r-'A') + 10
	}
	return -1
}

func HexText(n int, digits int) string {
	if n < 0 || digits < 1 || digits > mostHexDigits {
		return ""
	}
	text := make([]byte, digits)
	for i := digits - 1; i >= 0; i-- {
		text[i] = lowHex[n%16]
		n /= 16
	}
	return string(text)
}

func ReadHex(s string) int {
	n, ok := readDigits(s, 16, mostHexDigits)
	if !ok {
		return -1
	}
	return n
}

func Trim(s string) string { return strings.Trim(s, blanks) }

// CutAt goes by bytes, not by strings.IndexAny: that one goes by runes, so it
// misses single bytes from 128 on and takes invalid ones for one another.
func CutAt(s string, any string) (string, string, bool) {
	for i := range len(s) {
		if hasByte(any, s[i]) {
			return s[:i], s[i+1:], true
		}
	}
	return s, "", false
}

func hasByte(set string, b byte) bool { return strings.IndexByte(set, b) >= 0 }

func SplitAt(s string, sep byte) []string {
	if s == "" {
		return nil
	}
	var list []string
	for part := range partsBetween(s, func(b byte) bool { return b == sep }) {
		list = append(list, part)
	}
	return list
}

func Words(s string) []string {
	var list []string
	for part := range partsBetween(s, isBlank) {
		if part != "" {
			list = append(list, part)
		}
	}
	return list
}

func isBlank(b byte) bool { return hasByte(blanks, b) }

func partsBetween(s string, isSep func(b byte) bool) iter.Seq[string] {
	return func(yield func(string) bool) {
		start := 0
		for i := range len(s) {
			if !isSep(s[i]) {
				continue
			}
			if !yield(s[start:i]) {
				return
			}
			start = i + 1
		}
		yield(s[start:])
	}
}

func Before(a string, b string) bool { return a < b }
