// Package lines is layer 1: what a line is; numbers and texts in one form; see shared/doc/01-lines.md.
package lines

import (
	"math"
	"slices"
	"strconv"
	"strings"

	"scrim/api"
)

// greatest is the greatest N, and the greatest Rev, of a line that may be.
const greatest = 1 << 62

// Check says whether a line may be.
func Check(l api.Line) api.Errno {
	if l.N < 1 || l.N > greatest || l.Rev < 0 || l.Rev > greatest || !Text(l.Text) {
		return api.ErrLine
	}
	return api.OK
}

// Text says whether a text may be a line's.
func Text(s string) bool {
	return len(s) <= api.MaxText && !strings.Contains(s, "\n")
}

// Name says whether a text is a name.
func Name(s string) bool {
	if len(s) < 1 || len(s) > api.MaxName {
		return false
	}
	for _, r := range s {
		if !inName(r) {
			return false
		}
	}
	return true
}

func inName(r rune) bool {
	return 'a' <= r && r <= 'z' || isDigit(r) || r == '-' || r == '_'
}

func isDigit(r rune) bool { return '0' <= r && r <= '9' }

// Number is a number's form.
func Number(n int) string { return strconv.Itoa(n) }

// Read reads a number.
func Read(s string) (int, api.Errno) {
	n, rest, e := Take(s)
	if e != api.OK || rest != "" {
		return 0, api.ErrForm
	}
	return n, api.OK
}

// Take reads the number with which a text begins.
func Take(s string) (n int, rest string, e api.Errno) {
	unsigned, minus := strings.CutPrefix(s, "-")
	count := countDigits(unsigned)
	n, ok := value(unsigned[:count], minus)
	if !ok {
		return 0, "", api.ErrForm
	}
	return n, unsigned[count:], api.OK
}

// countDigits tells how many digits stand at a text's beginning.
func countDigits(s string) int {
	for i, r := range s {
		if !isDigit(r) {
			return i
		}
	}
	return len(s)
}

// value tells the number that has these digits, with a - ahead or without; false, if that is no number's form.
func value(digits string, minus bool) (int, bool) {
	if digits == "" || digits[0] == '0' && (minus || len(digits) > 1) {
		return 0, false
	}
	n := 0 // It is counted downwards, as there is one number more below 0 than above.
	for _, r := range digits {
		digit := int(r - '0')
		if n < (math.MinInt+digit)/10 {
			return 0, false
		}
		n = n*10 - digit
	}
	if minus {
		return n, true
	}
	if n == math.MinInt {
		return 0, false
	}
	return -n, true
}

// Show is a counted text.
func Show(s string) string { return Number(len(s)) + ":" + s }

// Shown reads the counted text with which a text begins.
func Shown(s string) (text, rest string, e api.Errno) {
	count, behind, e := Take(s)
	if e != api.OK {
		return "", "", api.ErrForm
	}
	behind, colon := strings.CutPrefix(behind, ":")
	if !colon || count < 0 || count > len(behind) {
		return "", "", api.ErrForm
	}
	return behind[:count], behind[count:], api.OK
}

// Cut are the texts of a text.
func Cut(s string) ([]string, api.Errno) {
	if s == "" {
		return nil, api.OK
	}
	whole, ended := strings.CutSuffix(s, "\n")
	if !ended {
		return nil, api.ErrForm
	}
	return strings.Split(whole, "\n"), api.OK
}

// Joined is a text of texts.
func Joined(l []string) string {
	var b strings.Builder
	for _, s := range l {
		b.WriteString(s)
		b.WriteByte('\n')
	}
	return b.String()
}

// Same says whether two lists of lines are the same.
func Same(a, b []api.Line) bool {
	return slices.EqualFunc(a, b, func(x, y api.Line) bool { return x == y })
}

// Texts are lines' texts.
func Texts(l []api.Line) []string {
	texts := make([]string, len(l))
	for i, x := range l {
		texts[i] = x.Text
	}
	return texts
}
