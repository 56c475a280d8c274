package resyntax

import (
	"slices"
	"strconv"
	"strings"

	"arborist/api"
	"arborist/charset"
	"arborist/regex"
)

// Show returns a text that spells r, or an empty one if r is not valid.
func Show(r api.Re) string {
	if regex.Right(r) != api.OK {
		return ""
	}
	var b strings.Builder
	write(&b, r)
	return b.String()
}

// write writes the valid expression r.
func write(b *strings.Builder, r api.Re) {
	switch r.Kind {
	case api.ReNone:
		b.WriteString("[]")
	case api.ReEps:
		b.WriteString("()")
	case api.ReSet:
		writeClass(b, r.Set)
	case api.ReCat:
		writeKids(b, r, 3, "")
	case api.ReAlt:
		writeKids(b, r, 1, "|")
	case api.ReAnd:
		writeKids(b, r, 2, "&")
	case api.ReNot:
		b.WriteByte('!')
		writeKids(b, r, 3, "")
	case api.ReStar:
		writeKids(b, r, 5, "")
		b.WriteByte('*')
	}
}

// writeKids writes the Kids of r with the separator between them, those in parentheses whose precedence is less than least.
func writeKids(b *strings.Builder, r api.Re, least int, separator string) {
	for i, kid := range r.Kids {
		if i > 0 {
			b.WriteString(separator)
		}
		if precedence(kid.Kind) >= least {
			write(b, kid)
			continue
		}
		b.WriteByte('(')
		write(b, kid)
		b.WriteByte(')')
	}
}

// precedence returns how tightly what is written for the kind holds together.
func precedence(kind api.ReKind) int {
	switch kind {
	case api.ReAlt:
		return 0
	case api.ReAnd:
		return 1
	case api.ReCat:
		return 2
	case api.ReNot:
		return 3
	case api.ReStar:
		return 4
	}
	return 5
}

// Class returns a text that spells the set s, or an empty one if s is not canonical.
func Class(s api.Set) string {
	if !charset.Right(s) {
		return ""
	}
	var b strings.Builder
	writeClass(&b, s)
	return b.String()
}

// writeClass writes the canonical set s.
func writeClass(b *strings.Builder, s api.Set) {
	switch {
	case slices.Equal(s, allButNewline()):
		b.WriteByte('.')
	case slices.Equal(s, charset.Not(nil)):
		b.WriteString("[^]")
	case len(s) == 1 && s[0].Lo == s[0].Hi:
		writeRune(b, s[0].Lo)
	default:
		b.WriteByte('[')
		for _, q := range s {
			writeRange(b, q)
		}
		b.WriteByte(']')
	}
}

// writeRange writes the range q of a class.
func writeRange(b *strings.Builder, q api.Range) {
	writeRune(b, q.Lo)
	if q.Hi > q.Lo+1 {
		b.WriteByte('-')
	}
	if q.Hi > q.Lo {
		writeRune(b, q.Hi)
	}
}

// writeRune writes the rune c, escaped where it must be.
func writeRune(b *strings.Builder, c rune) {
	switch {
	case c == '\n':
		b.WriteString(`\n`)
	case c == '\r':
		b.WriteString(`\r`)
	case c == '\t':
		b.WriteString(`\t`)
	case c < 32 || c > 126:
		b.WriteString(`\u{` + strconv.FormatInt(int64(c), 16) + "}")
	default:
		if strings.ContainsRune(escapable, c) {
			b.WriteByte('\\')
		}
		b.WriteRune(c)
	}
}
