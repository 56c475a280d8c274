package resyntax_test

import (
	"fmt"
	"strings"
	"testing"

	"arborist/api"
	"arborist/charset"
	"arborist/resyntax"
)

// mustSpell tells if a call does not answer the wanted text.
func mustSpell(t *testing.T, call string, got, want string) {
	t.Helper()
	if got != want {
		t.Errorf("%s is %q, want %q", call, cut(got), cut(want))
	}
}

// Promise P504: the text of a set is a dot, a rune or a class.
func TestP504Class(t *testing.T) {
	for _, x := range []struct {
		s    api.Set
		want string
	}{
		{nil, "[]"}, {api.Set{}, "[]"}, {bounds(0, 9, 11, maxRune), "."}, {bounds(0, maxRune), "[^]"}, {bounds('a', 'a'), "a"}, {bounds(10, 10), `\n`}, {bounds(13, 13), `\r`}, {bounds(9, 9), `\t`}, {bounds(0, 0), `\u{0}`}, {bounds(maxRune, maxRune), `\u{10ffff}`}, {bounds(']', ']'), `\]`},
		{bounds('a', 'b'), "[ab]"}, {bounds('a', 'c'), "[a-c]"}, {bounds('a', 'a', 'c', 'c'), "[ac]"}, {bounds('a', 'b', 'd', 'd'), "[abd]"}, {bounds('0', '9', 'A', 'Z', '_', '_', 'a', 'z'), "[0-9A-Z_a-z]"}, {bounds(']', ']', 'a', 'c'), `[\]a-c]`}, {bounds('^', '_'), `[\^_]`}, {bounds('+', '-'), `[\+-\-]`}, {bounds(',', '.'), `[,-\.]`}, {bounds('-', '-', '[', ']'), `[\-\[-\]]`},
		{bounds(0, 9), `[\u{0}-\t]`}, {bounds(9, 10), `[\t\n]`}, {bounds(9, 13), `[\t-\r]`}, {bounds(10, 11), `[\n\u{b}]`}, {bounds(11, maxRune), `[\u{b}-\u{10ffff}]`}, {bounds(0, 9, 11, maxRune-1), `[\u{0}-\t\u{b}-\u{10fffe}]`}, {bounds(0, 9, 12, maxRune), `[\u{0}-\t\u{c}-\u{10ffff}]`}, {bounds(0, 8, 11, maxRune), `[\u{0}-\u{8}\u{b}-\u{10ffff}]`}, {bounds(1, 9, 11, maxRune), `[\u{1}-\t\u{b}-\u{10ffff}]`}, {bounds(0, maxRune-1), `[\u{0}-\u{10fffe}]`}, {bounds(1, maxRune), `[\u{1}-\u{10ffff}]`},
		{bounds(31, 32), `[\u{1f} ]`}, {bounds(126, 127), `[~\u{7f}]`}, {bounds(0xe9, 0xe9, 0xfffd, 0xfffd), `[\u{e9}\u{fffd}]`}, {bounds(0xd7ff, 0xe000), `[\u{d7ff}-\u{e000}]`}, {bounds(0xd800, 0xd801), `[\u{d800}\u{d801}]`}, {bounds(0xabcde, 0xabcde), `\u{abcde}`},
	} {
		mustSpell(t, fmt.Sprintf("Class(%v)", x.s), resyntax.Class(x.s), x.want)
	}
	for _, s := range wrongSets() {
		mustSpell(t, fmt.Sprintf("Class(%v)", s), resyntax.Class(s), "")
	}
}

// spelled is how the rune c is written.
func spelled(c rune) string {
	special := map[rune]string{10: "\\n", 13: "\\r", 9: "\\t"}
	switch {
	case special[c] != "":
		return special[c]
	case c < 32 || c > 126:
		return fmt.Sprintf("\\u{%x}", c)
	case strings.ContainsRune(`!&()*+-./?[\]^{|}`, c):
		return "\\" + string(c)
	}
	return string(c)
}

// Promise P504: each rune is written as it is, behind a backslash, or as an escape with its number.
func TestP504Runes(t *testing.T) {
	for c := rune(0); c <= maxRune; c++ {
		if c > 0x3000 && c%97 != 0 && c < maxRune-100 {
			continue
		}
		s := spelled(c)
		mustSpell(t, fmt.Sprintf("Class of %d", c), resyntax.Class(bounds(c, c)), s)
		if c >= 3 {
			mustSpell(t, fmt.Sprintf("Class up to %d", c), resyntax.Class(bounds(c-3, c-3, c-1, c)), "["+spelled(c-3)+spelled(c-1)+s+"]")
		}
	}
}

// Promise P504: for all sets of runes in a row of ten, the class lists single runes, neighbours and longer ranges.
func TestP504Subsets(t *testing.T) {
	for _, from := range []rune{0, 6, 'X', '&', 120, maxRune - 9} {
		for members := range 1 << 10 {
			var s api.Set
			want, count := "", 0
			for i := rune(0); i < 10; i++ {
				first := i
				for i < 10 && members>>i&1 == 1 {
					i++
				}
				if i == first {
					continue
				}
				s = append(s, api.Range{Lo: from + first, Hi: from + i - 1})
				count += int(i - first)
				want += []string{"", spelled(from + first), spelled(from+first) + spelled(from+i-1), spelled(from+first) + "-" + spelled(from+i-1)}[min(3, i-first)]
			}
			if count != 1 {
				want = "[" + want + "]"
			}
			mustSpell(t, fmt.Sprintf("Class(%v)", s), resyntax.Class(s), want)
		}
	}
}

// Promise P505: an expression of each kind, and the parentheses of the operands, stand as the chapter says.
func TestP505Operands(t *testing.T) {
	a, b, c := one('a'), one('b'), one('c')
	// The operands come in the order of the columns below: two of each kind of leaf, then the others.
	operands := []struct {
		r api.Re
		s string
	}{
		{leaf(api.ReNone), "[]"}, {leaf(api.ReEps), "()"}, {b, "b"}, {set('b', 'c'), "[bc]"},
		{of(api.ReStar, b), "b*"}, {of(api.ReNot, b), "!b"}, {of(api.ReCat, b, c), "bc"}, {of(api.ReAnd, b, c), "b&c"}, {of(api.ReAlt, b, c), "b|c"},
	}
	for _, x := range []struct {
		build func(r api.Re) api.Re
		// format has a mark where the operand stands.
		format string
		// held is the number of operands that stand without parentheses, from the first one on.
		held int
	}{
		{func(r api.Re) api.Re { return of(api.ReStar, r) }, "%*", 4},
		{func(r api.Re) api.Re { return of(api.ReNot, r) }, "!%", 6},
		{func(r api.Re) api.Re { return of(api.ReCat, r, a) }, "%a", 6},
		{func(r api.Re) api.Re { return of(api.ReCat, a, r) }, "a%", 6},
		{func(r api.Re) api.Re { return of(api.ReCat, a, r, r, a) }, "a%%a", 6},
		{func(r api.Re) api.Re { return of(api.ReAnd, r, a) }, "%&a", 7},
		{func(r api.Re) api.Re { return of(api.ReAnd, a, r) }, "a&%", 7},
		{func(r api.Re) api.Re { return of(api.ReAnd, r, a, r) }, "%&a&%", 7},
		{func(r api.Re) api.Re { return of(api.ReAlt, r, a) }, "%|a", 8},
		{func(r api.Re) api.Re { return of(api.ReAlt, a, r) }, "a|%", 8},
		{func(r api.Re) api.Re { return of(api.ReAlt, r, r, a) }, "%|%|a", 8},
	} {
		for i, operand := range operands {
			s := operand.s
			if i >= x.held {
				s = "(" + s + ")"
			}
			mustSpell(t, "Show", resyntax.Show(x.build(operand.r)), strings.ReplaceAll(x.format, "%", s))
		}
	}
	for _, operand := range operands {
		mustSpell(t, "Show", resyntax.Show(operand.r), operand.s)
	}
}

// Promise P505: sets stand as Class writes them, and nothing is put into another order or left out.
func TestP505Show(t *testing.T) {
	a, b, eps := one('a'), one('b'), leaf(api.ReEps)
	for _, x := range []struct {
		r    api.Re
		want string
	}{
		{set(0, 9, 11, maxRune), "."}, {set(0, maxRune), "[^]"}, {one('*'), `\*`}, {set('a', 'z'), "[a-z]"}, {one(0xe9), `\u{e9}`}, {of(api.ReStar, set('a', 'b')), "[ab]*"}, {of(api.ReStar, one('*')), `\**`},
		{of(api.ReAlt, b, a, b), "b|a|b"}, {of(api.ReAnd, b, b), "b&b"}, {of(api.ReCat, eps, eps), "()()"}, {of(api.ReNot, of(api.ReNot, a)), "!!a"}, {of(api.ReStar, of(api.ReStar, a)), "(a*)*"}, {all(), "![]"}, {of(api.ReStar, eps), "()*"},
		{of(api.ReCat, of(api.ReNot, a), of(api.ReStar, of(api.ReNot, b)), of(api.ReNot, of(api.ReStar, a))), "!a(!b)*!a*"},
		{of(api.ReAlt, of(api.ReAnd, of(api.ReCat, a, b), of(api.ReAlt, a, eps)), of(api.ReCat, of(api.ReAnd, a, b), b)), "ab&(a|())|(a&b)b"},
		{of(api.ReCat, of(api.ReCat, a, of(api.ReCat, b, a)), b), "(a(ba))b"}, {of(api.ReAlt, of(api.ReAlt, a, b), of(api.ReAlt, b, a)), "(a|b)|(b|a)"},
		{chain(api.MaxDeep-1, api.ReStar, a), strings.Repeat("(", api.MaxDeep-2) + "a*" + strings.Repeat(")*", api.MaxDeep-2)}, {chain(api.MaxDeep-1, api.ReNot, a), strings.Repeat("!", api.MaxDeep-1) + "a"}, {chain(api.MaxDeep-1, api.ReCat, a, b), strings.Repeat("(", api.MaxDeep-2) + "ab" + strings.Repeat(")b", api.MaxDeep-2)},
	} {
		mustSpell(t, fmt.Sprintf("Show(%v)", x.r), resyntax.Show(x.r), x.want)
	}
	for _, s := range []api.Set{bounds(0, 3), bounds('+', '-'), bounds(']', ']', 'a', 'c'), charset.Not(bounds('a', 'a'))} {
		mustSpell(t, "Show", resyntax.Show(api.Re{Kind: api.ReSet, Set: s}), resyntax.Class(s))
	}
}

// Promise P505: what is not valid is shown as an empty text.
func TestP505Invalid(t *testing.T) {
	for _, r := range wild() {
		mustSpell(t, "Show", resyntax.Show(r), "")
	}
	twice := one('a')
	for range 60 {
		twice = of(api.ReCat, twice, twice)
	}
	mustSpell(t, "Show of more nodes than can be counted", resyntax.Show(twice), "")
	if resyntax.Show(of(api.ReCat, wide(api.MaxRe-1)...)) == "" {
		t.Error("an expression of MaxRe nodes is valid")
	}
	mustSpell(t, "Show", resyntax.Show(of(api.ReCat, wide(api.MaxRe)...)), "")
}

// wide are n expressions of one node.
func wide(n int) []api.Re {
	var l []api.Re
	for i := range n {
		l = append(l, leaves()[i%len(leaves())])
	}
	return l
}
