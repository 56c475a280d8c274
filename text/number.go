package text

import (
	"strings"

	"arborist/api"
)

// Show returns the decimal digits of n, with a leading - if n is negative.
func Show(n int) string {
	var b strings.Builder
	size := uint64(n)
	if n < 0 {
		b.WriteByte('-')
		// Unsigned numbers wrap round, so that this is right for the least int too.
		size = -size
	}
	for d := range digits(size, 10) {
		b.WriteByte(d)
	}
	return b.String()
}

// digits yields the digits of n to the given base (at most 16), the greatest one first, without leading zeros.
func digits(n, base uint64) func(yield func(byte) bool) {
	return func(yield func(byte) bool) {
		unit := uint64(1)
		for n/unit >= base {
			unit *= base
		}
		for ; unit > 0; unit /= base {
			if !yield("0123456789abcdef"[n/unit%base]) {
				return
			}
		}
	}
}

// Read returns the number that s spells. It returns ErrForm if s spells none, and ErrRange if the number is greater than most.
func Read(s string, most int) (int, api.Errno) {
	if !isNumber(s) {
		return 0, api.ErrForm
	}
	n := 0
	for _, r := range s {
		d := int(r - '0')
		// The bound is asked ahead of the sum, which could exceed the greatest int.
		if d > most || n > (most-d)/10 {
			return 0, api.ErrRange
		}
		n = 10*n + d
	}
	return n, api.OK
}

// isNumber reports whether s consists of one or more digits without a leading zero, except "0" itself.
func isNumber(s string) bool {
	if s == "" || s[0] == '0' && s != "0" {
		return false
	}
	for i := range len(s) {
		if !isDigit(s[i]) {
			return false
		}
	}
	return true
}

// isDigit reports whether c is one of 0 to 9.
func isDigit(c byte) bool { return c >= '0' && c <= '9' }
