package resyntax_test

import (
	"slices"
	"strings"
	"testing"

	"arborist/api"
	"arborist/charset"
	"arborist/deriv"
	"arborist/regex"
	"arborist/resyntax"
)

// Promise P506: what Show writes is read again, and then matches the same words.
func TestP506RoundTrip(t *testing.T) {
	all := words(3, 'a', 'b', 0xe9)
	for _, r := range pool() {
		s := resyntax.Show(r)
		got := mustRead(t, s)
		for _, w := range all {
			if matches(got, w) != matches(r, w) {
				t.Errorf("Read of %q answers another language: %q", cut(s), string(w))
				break
			}
		}
	}
}

// Promise P506: what the parser answers comes back too.
func TestP506FromText(t *testing.T) {
	all := words(3, 'a', 'b', '*')
	for _, x := range samples(2500) {
		r, d := resyntax.Read(x.text)
		if s := resyntax.Show(r); d == (api.Diag{}) && len(x.text) < 100 && len(s) < 300 {
			got := mustRead(t, s)
			for _, w := range all {
				a, _ := deriv.Match(r, string(w))
				b, _ := deriv.Match(got, string(w))
				if a != b {
					t.Errorf("Read of %q answers another language: %q", cut(s), string(w))
				}
			}
		}
	}
}

// mustComeBack tells if Read refuses what Show writes for r, or answers another language as far as the given texts tell.
func mustComeBack(t *testing.T, name string, r api.Re, l ...string) {
	t.Helper()
	s := resyntax.Show(r)
	if s == "" || len(s) > api.MaxText {
		t.Fatalf("%s: Show answers %d bytes", name, len(s))
	}
	got := mustRead(t, s)
	for _, w := range l {
		a, _ := deriv.Match(r, w)
		b, _ := deriv.Match(got, w)
		if a != b {
			t.Errorf("%s: %q is matched: %v, and after the round trip: %v", name, cut(w), a, b)
		}
	}
}

// Promise P506: it holds for expressions of MaxRe nodes and for those of the depth MaxDeep.
func TestP506Limits(t *testing.T) {
	a, b, eps := one('a'), one('b'), leaf(api.ReEps)
	l := []string{"", "a", "b", "aa", "ab", "ba", "abab", strings.Repeat("a", 99), strings.Repeat("a", 100), "a" + strings.Repeat("b", 99), strings.Repeat("b", 99) + "a"}
	const deep = api.MaxDeep - 1
	mustComeBack(t, "stars", chain(deep, api.ReStar, a), l...)
	mustComeBack(t, "stars of the empty text", chain(deep, api.ReStar, eps), l...)
	mustComeBack(t, "complements", chain(deep, api.ReNot, a), l...)
	mustComeBack(t, "concatenations", chain(deep, api.ReCat, a, b), l...)
	mustComeBack(t, "concatenations of empty texts", chain(deep, api.ReCat, eps, eps), l...)
	mustComeBack(t, "unions", chain(deep, api.ReAlt, eps, a, b), l...)
	mustComeBack(t, "intersections", chain(deep, api.ReAnd, a, set('a', 'b')), l...)
	kinds := a
	for i := range deep {
		kinds = []api.Re{of(api.ReAlt, b, kinds), of(api.ReCat, a, kinds), of(api.ReAnd, kinds, of(api.ReNot, b)), of(api.ReStar, kinds), of(api.ReNot, kinds)}[i%5]
	}
	mustComeBack(t, "kinds by turns", kinds, l...)
	for _, kind := range []api.ReKind{api.ReCat, api.ReAlt, api.ReAnd} {
		for _, kid := range []api.Re{a, eps, leaf(api.ReNone), set('a', 'z')} {
			mustComeBack(t, "wide lists", of(kind, slices.Repeat([]api.Re{kid}, api.MaxRe-1)...), l...)
		}
		pairs := slices.Repeat([]api.Re{of(kind, b, a)}, (api.MaxRe-1)/3)
		mustComeBack(t, "lists of pairs", of(kind, pairs...), "", "a", "b", "ba", "baba", strings.Repeat("ba", len(pairs)))
	}
}

// Promise P506: Read of the text of a set matches exactly its runes.
func TestP506Class(t *testing.T) {
	sets := []api.Set{nil, bounds(0, 9, 11, maxRune), bounds(0, maxRune), bounds(0, 10), bounds(maxRune, maxRune), bounds(0xd800, 0xdfff), bounds('^', '^'), bounds('^', 'a'), bounds('-', '-', '[', ']'), bounds('!', '/')}
	for c := range rune(300) {
		sets = append(sets, bounds(c, c), bounds(c, c+1), bounds(c, c+2), bounds(c, c, c+2, c+9), charset.Not(bounds(c, c)), charset.Not(bounds(c, c+3)))
	}
	next := numbers(5)
	for range 300 {
		var s api.Set
		for range next(40) {
			c := rune(next(200))
			if next(3) == 0 {
				c = rune(next(0x8000)) * 34
			}
			s = append(s, api.Range{Lo: c, Hi: min(maxRune, c+rune(next(5)))})
		}
		sets = append(sets, charset.Of(s...))
	}
	for _, s := range sets {
		text := resyntax.Class(s)
		mustBe(t, text, regex.OfSet(s))
		mustBe(t, "x("+text+")*", regex.Cat(one('x'), regex.Star(regex.OfSet(s))))
		if len(s) > 0 {
			mustSpell(t, "Show", resyntax.Show(api.Re{Kind: api.ReSet, Set: s}), text)
		}
	}
}

// Promise P507: the alternation of two texts that are read is read, and matches what one of the two does.
func TestP507Alternation(t *testing.T) {
	pieces := []string{"", "a", "b*", "a|b", "!a", "a&b", "!a&!b", "ab|", "|", "&", "(a)", "(a|b)*", "a{0,2}", "[^a]b?", ".", "[]", "![]", "a-b^", "\\(", "[)(]", "!()", "a+b+", "[a-c]{2}", "((b))"}
	for _, x := range samples(400) {
		if len(x.text) < 40 && x.weight < 100 {
			pieces = append(pieces, x.text)
		}
	}
	all := words(3, 'a', 'b', '(')
	for i, x := range pieces {
		for j, y := range pieces {
			if i >= 24 && j >= 24 && (i+j)%7 != 0 {
				continue
			}
			both, left, right := mustRead(t, "("+x+")|("+y+")"), mustRead(t, x), mustRead(t, y)
			if !equal(both, regex.Alt(left, right)) {
				t.Errorf("the alternation of %q and %q is not the union of both", x, y)
			}
			for _, w := range all[:13] {
				if matches(both, w) != (matches(left, w) || matches(right, w)) {
					t.Errorf("the alternation of %q and %q: %q", x, y, string(w))
				}
			}
		}
	}
}

// Promise P507: the alternation is refused only where it exceeds a limit.
func TestP507Limits(t *testing.T) {
	alternation := func(x, y string) string { return "(" + x + ")|(" + y + ")" }
	a, star, paren, closed := strings.Repeat("a", 2046), "a"+strings.Repeat("*", 98), strings.Repeat("(", 99), strings.Repeat(")", 99)
	b := strings.Repeat("b", 2047)
	mustRead(t, alternation(a, b))
	mustFail(t, alternation(b, b), api.ErrLong, 0)
	mustRead(t, alternation(star, a))
	mustFail(t, alternation(star+"*", "a"), api.ErrDeep, 0)
	mustRead(t, alternation("b", paren+closed))
	mustFail(t, alternation("b", "("+paren+closed+")"), api.ErrDeep, len("(b)|(")+api.MaxDeep-1)
	class := func(bytes int) string { return "[" + strings.Repeat("a", bytes-2) + "]" }
	mustRead(t, alternation(class(30000), class(api.MaxText-30005)))
	mustFail(t, alternation(class(30000), class(api.MaxText-30004)), api.ErrLong, 0)
}
