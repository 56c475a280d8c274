package text

import (
	"strings"
	"unicode/utf8"

	"arborist/api"
)

// Quote returns s in double quotes, with escapes for all that is not printable ASCII.
func Quote(s string) string {
	var b strings.Builder
	b.WriteByte('"')
	for at, r := range s {
		if isInvalid(s, at, r) {
			writeCode(&b, 'x', uint64(s[at]))
		} else {
			writeRune(&b, r)
		}
	}
	b.WriteByte('"')
	return b.String()
}

// writeRune writes the valid rune r as it stands between quotes.
func writeRune(b *strings.Builder, r rune) {
	switch {
	case r == '\n':
		b.WriteString(`\n`)
	case r == '\r':
		b.WriteString(`\r`)
	case r == '\t':
		b.WriteString(`\t`)
	case r == '"', r == '\\':
		b.WriteByte('\\')
		fallthrough
	case r >= 32 && r <= 126:
		b.WriteRune(r)
	default:
		writeCode(b, 'u', uint64(r))
	}
}

// writeCode writes the escape of the given letter with the hex digits of n in braces.
func writeCode(b *strings.Builder, letter byte, n uint64) {
	b.WriteByte('\\')
	b.WriteByte(letter)
	b.WriteByte('{')
	for d := range digits(n, 16) {
		b.WriteByte(d)
	}
	b.WriteByte('}')
}

// Unquote decodes the quoted text at the beginning of s. It returns the decoded text and the number of bytes of the quoted one, or the first error from left to right.
func Unquote(s string) (string, int, api.Errno) {
	if !strings.HasPrefix(s, `"`) {
		return "", 0, api.ErrForm
	}
	var b strings.Builder
	at := 1
	for at < len(s) && s[at] != '"' {
		piece, n, e := unquoteOne(s[at:])
		if e != api.OK {
			return "", 0, e
		}
		b.WriteString(piece)
		at += n
	}
	if at == len(s) {
		return "", 0, api.ErrUnterminated
	}
	return b.String(), at + 1, api.OK
}

// unquoteOne decodes the rune or the escape at the beginning of s, which is not empty. It returns what that stands for and its length in bytes.
func unquoteOne(s string) (string, int, api.Errno) {
	if s[0] == '\\' {
		return unescape(s)
	}
	r, n := utf8.DecodeRuneInString(s)
	if r < 32 || r == 127 || isInvalid(s, 0, r) {
		return "", 0, wrongAt(s, 0)
	}
	return s[:n], n, api.OK
}

// wrongAt returns the error for a quoted text that can't go on at offset at of s.
func wrongAt(s string, at int) api.Errno {
	if at == len(s) || s[at] == '\n' {
		return api.ErrUnterminated
	}
	return api.ErrForm
}

// unescape decodes the escape at the beginning of s, which starts with a backslash. It returns what the escape stands for and its length in bytes.
func unescape(s string) (string, int, api.Errno) {
	if len(s) == 1 {
		return "", 0, api.ErrUnterminated
	}
	least, most := 1, 6
	switch letter := s[1]; letter {
	case '"', '\\':
		return s[1:2], 2, api.OK
	case 'n':
		return "\n", 2, api.OK
	case 'r':
		return "\r", 2, api.OK
	case 't':
		return "\t", 2, api.OK
	case 'x':
		least, most = 2, 2
		fallthrough
	case 'u':
		code, n, e := readBraces(s, 2, least, most)
		if e != api.OK {
			return "", 0, e
		}
		return decode(letter, code, n)
	}
	return "", 0, wrongAt(s, 1)
}

// readBraces reads at least least and at most most hex digits in braces, which start at offset at of s. It returns their number and the offset behind the braces.
func readBraces(s string, at, least, most int) (rune, int, api.Errno) {
	if at == len(s) || s[at] != '{' {
		return 0, 0, wrongAt(s, at)
	}
	at++
	code := rune(0)
	count := 0
	for count < most && at < len(s) && isHex(s[at]) {
		code = code<<4 | hexValue(s[at])
		at++
		count++
	}
	if count < least || at == len(s) || s[at] != '}' {
		return 0, 0, wrongAt(s, at)
	}
	return code, at + 1, api.OK
}

// decode returns what an escape of the given letter, code and length stands for, and that length.
func decode(letter byte, code rune, n int) (string, int, api.Errno) {
	if letter == 'x' {
		return string([]byte{byte(code)}), n, api.OK
	}
	if !utf8.ValidRune(code) {
		return "", 0, api.ErrForm
	}
	return string(code), n, api.OK
}

// isHex reports whether c is a hex digit.
func isHex(c byte) bool { return isDigit(c) || c >= 'a' && c <= 'f' }

// hexValue returns the value of the hex digit c.
func hexValue(c byte) rune {
	if isDigit(c) {
		return rune(c - '0')
	}
	return rune(c-'a') + 10
}
