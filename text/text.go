// Package text is layer 1: byte offsets, line/column positions, decimal numbers, quoted strings. It is specified in shared/doc/01-text.md.
package text

import (
	"strings"
	"unicode/utf8"

	"arborist/api"
)

// Runes returns the runes of s in order, each with its byte offset and its length in bytes.
func Runes(s string) []api.Rune {
	var l []api.Rune
	for at, r := range s {
		l = append(l, api.Rune{R: r, At: at, Len: runeLen(s, at, r)})
	}
	return l
}

// runeLen returns the length in bytes of the rune r that starts at offset at of s.
func runeLen(s string, at int, r rune) int {
	if isInvalid(s, at, r) {
		return 1
	}
	return utf8.RuneLen(r)
}

// isInvalid reports whether the rune r at offset at of s stands for an invalid byte. The rune 65533 alone does not tell, because a text may also contain it as a valid rune.
func isInvalid(s string, at int, r rune) bool {
	return r == utf8.RuneError && !strings.HasPrefix(s[at:], string(utf8.RuneError))
}

// Position returns the line and column of the offset at, and false if at is no rune boundary of s.
func Position(s string, at int) (api.Position, bool) {
	for i, p := range boundaries(s) {
		if i == at {
			return p, true
		}
		if i > at {
			break
		}
	}
	return api.Position{}, false
}

// Place returns the offset whose Position is p, and false if there is none.
func Place(s string, p api.Position) (int, bool) {
	for at, q := range boundaries(s) {
		if q == p {
			return at, true
		}
	}
	return 0, false
}

// boundaries yields the rune boundaries of s from left to right, each with its position.
func boundaries(s string) func(yield func(int, api.Position) bool) {
	return func(yield func(int, api.Position) bool) {
		p := api.Position{Line: 1, Col: 1}
		for at, r := range s {
			if !yield(at, p) {
				return
			}
			p = behind(p, r)
		}
		yield(len(s), p)
	}
}

// behind returns the position behind the rune r that stands at p.
func behind(p api.Position, r rune) api.Position {
	if r == '\n' {
		return api.Position{Line: p.Line + 1, Col: 1}
	}
	return api.Position{Line: p.Line, Col: p.Col + 1}
}

// IsName reports whether s is a name: a letter or an underscore, followed by letters, digits and underscores, with at most MaxName bytes in all.
func IsName(s string) bool {
	if s == "" || len(s) > api.MaxName || isDigit(s[0]) {
		return false
	}
	for _, r := range s {
		if !isNameRune(r) {
			return false
		}
	}
	return true
}

// isNameRune reports whether r is a letter from a to z or A to Z, a digit or an underscore.
func isNameRune(r rune) bool {
	return r >= 'a' && r <= 'z' || r >= 'A' && r <= 'Z' || r >= '0' && r <= '9' || r == '_'
}
