package deriv_test

import (
	"math"
	"slices"
	"strings"
	"testing"

	"arborist/api"
	"arborist/charset"
	"arborist/deriv"
	"arborist/regex"
)

// texts are texts of runes of all lengths, with bytes that are no part of valid UTF-8.
func texts() []string {
	return []string{"", "a", "b", "ab", "ba", "abab", "aabbaab", "x", "axb", "\u00e9", "a\u00e9b", "\u00e9\u00e9", "\xff", "a\xffb", "\xc3", "\xc3a", "\u20ac\xe2\x82b", "\ufffd\xff", "\U0010ffff\x00", "\xed\xa0\x80"}
}

// Promise P601: no argument makes a call panic, and beside an error or a false there is nothing else.
func TestP601AllArguments(t *testing.T) {
	for _, r := range append(wild(), tame()...) {
		deriv.Empty(r)
		deriv.Parts(r)
		for _, c := range []rune{math.MinInt32, -1, 0, 'a', 0xd800, 65533, maxRune, maxRune + 1, math.MaxInt32} {
			d := deriv.By(r, c)
			deriv.Empty(d)
			deriv.By(d, 'a')
		}
		for _, s := range append(texts(), strings.Repeat("a", api.MaxText+1)) {
			if is, e := deriv.Match(r, s); is && e != api.OK {
				t.Errorf("Match answers true beside %d", e)
			}
			for _, at := range []int{math.MinInt, -1, 0, 1, 2, len(s), len(s) + 1, math.MaxInt} {
				if end, found := deriv.Longest(r, s, at); !found && end != 0 || found && (end < at || end > len(s)) {
					t.Errorf("Longest(%v, %q, %d) = %d, %v", show(r), s, at, end, found)
				}
			}
		}
	}
}

// hollow is r with empty lists instead of nil.
func hollow(r api.Re) api.Re {
	h := api.Re{Kind: r.Kind, Set: append(api.Set{}, r.Set...), Kids: []api.Re{}}
	for _, kid := range r.Kids {
		h.Kids = append(h.Kids, hollow(kid))
	}
	return h
}

// Promise P601: nil and empty lists are equivalent.
func TestP601Empty(t *testing.T) {
	for _, r := range tame() {
		h := hollow(r)
		if deriv.Empty(h) != deriv.Empty(r) {
			t.Errorf("Empty of %v", show(h))
		}
		for _, c := range []rune{'a', 'b', 'x'} {
			if !equal(deriv.By(h, c), deriv.By(r, c)) {
				t.Errorf("By(%v, %q)", show(h), c)
			}
		}
		if !slices.EqualFunc(deriv.Parts(h), deriv.Parts(r), func(a, b api.Set) bool { return slices.Equal(a, b) }) {
			t.Errorf("Parts of %v", show(h))
		}
		for _, s := range texts() {
			a, _ := deriv.Match(h, s)
			b, _ := deriv.Match(r, s)
			if a != b {
				t.Errorf("Match(%v, %q)", show(h), s)
			}
		}
	}
}

// memory has an entry for each place in the lists that were marked.
type memory map[any]bool

// enter enters a place. It tells if that has been entered before.
func (m memory) enter(t *testing.T, place any, call string) {
	t.Helper()
	if m[place] {
		t.Fatalf("%s answers memory that is in use elsewhere", call)
	}
	m[place] = true
}

// markSet enters the places of s, those behind its length too.
func (m memory) markSet(t *testing.T, s api.Set, call string) {
	t.Helper()
	s = s[:cap(s)]
	for i := range s {
		m.enter(t, &s[i], call)
	}
}

// mark enters the places of all lists of r, those behind their lengths too.
func (m memory) mark(t *testing.T, r api.Re, call string) {
	t.Helper()
	m.markSet(t, r.Set, call)
	kids := r.Kids[:cap(r.Kids)]
	for i := range kids {
		m.enter(t, &kids[i], call)
	}
	for _, kid := range r.Kids {
		m.mark(t, kid, call)
	}
}

// spare is a copy of r with room behind each list, which holds other things.
func spare(r api.Re) api.Re {
	s := append(make(api.Set, 0, len(r.Set)+3), r.Set...)
	copy(s[len(s):cap(s)], set('!', '!', '?', '?', '.', '.').Set)
	kids := make([]api.Re, 0, len(r.Kids)+2)
	for _, kid := range r.Kids {
		kids = append(kids, spare(kid))
	}
	copy(kids[len(kids):cap(kids)], []api.Re{one('!'), leaf(9)})
	return api.Re{Kind: r.Kind, Set: s, Kids: kids}
}

// full is what the lists of r hold, behind their lengths too.
func full(r api.Re) []int {
	l := []int{int(r.Kind), len(r.Set), len(r.Kids)}
	for _, q := range r.Set[:cap(r.Set)] {
		l = append(l, int(q.Lo), int(q.Hi))
	}
	for _, kid := range r.Kids[:cap(r.Kids)] {
		l = append(l, full(kid)...)
	}
	return l
}

// Promise P601: the arguments stay as they are, behind their lengths too, and no two lists of answers and arguments share memory.
func TestP601Pure(t *testing.T) {
	for _, r := range pool() {
		x := spare(r)
		kept := full(x)
		m := memory{}
		m.mark(t, x, "the test")
		for range 2 {
			for _, c := range []rune{'a', 'b', 0xe9} {
				d := deriv.By(x, c)
				m.mark(t, d, "By")
				m.mark(t, deriv.By(d, 'a'), "By")
			}
			parts := deriv.Parts(x)
			for i := range parts[:cap(parts)] {
				m.enter(t, &parts[:cap(parts)][i], "Parts")
			}
			for _, s := range parts {
				m.markSet(t, s, "Parts")
			}
		}
		deriv.Empty(x)
		deriv.Match(x, "abba")
		deriv.Longest(x, "abba", 1)
		if !slices.Equal(full(x), kept) {
			t.Fatalf("the argument %v has changed", show(r))
		}
	}
}

// Promise P601: what By answers does not change from call to call, nor with the order in which a union or an intersection names its parts.
func TestP601Same(t *testing.T) {
	for _, r := range pool() {
		for _, c := range []rune{'a', 'b'} {
			d := deriv.By(r, c)
			if !equal(deriv.By(r, c), d) {
				t.Errorf("By(%v, %q) changes", show(r), c)
			}
			if r.Kind == api.ReAlt || r.Kind == api.ReAnd {
				turned := of(r.Kind, slices.Clone(r.Kids)...)
				slices.Reverse(turned.Kids)
				if got := deriv.By(turned, c); !equal(got, d) {
					t.Errorf("By(%v, %q) is %v, or %v in the other order", show(r), c, show(d), show(got))
				}
			}
		}
	}
}

// Promise P602: Empty tells whether the empty text is matched.
func TestP602Empty(t *testing.T) {
	a, none, eps := one('a'), leaf(api.ReNone), leaf(api.ReEps)
	for _, x := range []struct {
		r    api.Re
		want bool
	}{
		{none, false}, {eps, true}, {a, false}, {set(0, maxRune), false}, {all(), true},
		{of(api.ReCat, eps, eps), true}, {of(api.ReCat, eps, a), false}, {of(api.ReCat, a, eps), false}, {of(api.ReCat, eps, none), false},
		{of(api.ReAlt, a, eps), true}, {of(api.ReAlt, a, none), false}, {of(api.ReAlt, none, none, of(api.ReStar, a)), true},
		{of(api.ReAnd, eps, of(api.ReStar, a)), true}, {of(api.ReAnd, eps, a), false}, {of(api.ReAnd, of(api.ReStar, a), of(api.ReStar, a), a), false},
		{of(api.ReNot, a), true}, {of(api.ReNot, eps), false}, {of(api.ReNot, of(api.ReStar, a)), false}, {of(api.ReNot, of(api.ReNot, eps)), true},
		{of(api.ReStar, a), true}, {of(api.ReStar, none), true},
	} {
		if is := deriv.Empty(x.r); is != x.want {
			t.Errorf("Empty(%v) = %v", show(x.r), is)
		}
	}
	for _, r := range pool() {
		mustAgree(t, "Empty", r, nil, deriv.Empty(r), matches(r, nil))
	}
}

// Promise P602: By answers a well-formed expression of the words that make one of r with the code point ahead of them.
func TestP602By(t *testing.T) {
	rest := words(3, 'a', 'b', 0xe9)
	for _, r := range pool() {
		for _, c := range []rune{'a', 'b', 0xe9, 'x', 0, maxRune} {
			d := deriv.By(r, c)
			if !isWellFormed(d) {
				t.Errorf("By(%v, %q) = %v", show(r), c, show(d))
				continue
			}
			for _, w := range rest {
				whole := append([]rune{c}, w...)
				mustAgree(t, "By", r, whole, matches(d, w), matches(r, whole))
			}
		}
	}
}

// Promise P602: the examples of the chapter and some more.
func TestP602Examples(t *testing.T) {
	a, b, ab := one('a'), one('b'), set('a', 'b')
	r := of(api.ReCat, of(api.ReStar, a), b)
	for _, w := range words(5, 'a', 'b') {
		mustAgree(t, "By a", r, w, matches(deriv.By(r, 'a'), w), matches(r, w))
		mustAgree(t, "By b", r, w, matches(deriv.By(r, 'b'), w), len(w) == 0)
		mustAgree(t, "By x", r, w, matches(deriv.By(r, 'x'), w), false)
		mustAgree(t, "By a of a set", ab, w, matches(deriv.By(ab, 'a'), w), len(w) == 0)
		mustAgree(t, "By x of a complement", of(api.ReNot, ab), w, matches(deriv.By(of(api.ReNot, ab), 'x'), w), true)
	}
}

// Promise P602: a number that is no code point leaves nothing, even of the expression of every text; the first and the last one, and the surrogates, are code points.
func TestP602Universe(t *testing.T) {
	for _, c := range []rune{math.MinInt32, -2, -1, maxRune + 1, maxRune + 2, math.MaxInt32} {
		for _, r := range append(tame(), of(api.ReSet, api.Re{}), set(math.MinInt32, math.MaxInt32)) {
			d := deriv.By(r, c)
			if !isWellFormed(d) || matches(d, nil) || matches(d, []rune{'a'}) || matches(d, []rune{'a', 'b'}) {
				t.Errorf("By(%v, %d) = %v", show(r), c, show(d))
			}
		}
	}
	for _, c := range []rune{0, 1, 0xd7ff, 0xd800, 0xdfff, 0xe000, 65533, maxRune - 1, maxRune} {
		if !deriv.Empty(deriv.By(set(0, maxRune), c)) || !deriv.Empty(deriv.By(one(c), c)) || !deriv.Empty(deriv.By(all(), c)) {
			t.Errorf("%d is a code point", c)
		}
		if c > 0 && deriv.Empty(deriv.By(one(c), c-1)) || c < maxRune && deriv.Empty(deriv.By(one(c), c+1)) {
			t.Errorf("the neighbours of %d are other code points", c)
		}
	}
	wide := set(1, 3, 7, 7, 10, 20, 0xd800, 0xd801, maxRune-1, maxRune)
	for _, c := range []rune{0, 1, 2, 3, 4, 6, 7, 8, 9, 10, 15, 20, 21, 0xd7ff, 0xd800, 0xd801, 0xd802, maxRune - 2, maxRune - 1, maxRune} {
		mustAgree(t, "By", wide, []rune{c}, deriv.Empty(deriv.By(wide, c)), holds(wide.Set, c))
	}
}

// sets are the sets of all ReSet nodes of l.
func sets(l ...api.Re) []api.Set {
	var all []api.Set
	for _, r := range l {
		if r.Kind == api.ReSet {
			all = append(all, r.Set)
		}
		all = append(all, sets(r.Kids...)...)
	}
	return all
}

// mustPart tells if Parts answers other classes for r than the wanted ones.
func mustPart(t *testing.T, r api.Re, want []api.Set) {
	t.Helper()
	got := deriv.Parts(r)
	if !slices.EqualFunc(got, want, func(a, b api.Set) bool { return slices.Equal(a, b) }) {
		t.Errorf("Parts of %v are %v, want %v", show(r), got, want)
	}
}

// Promise P603: Parts answers the classes of the sets of all nodes, those too that can match nothing.
func TestP603Parts(t *testing.T) {
	a, ac, none := one('a'), set('a', 'c'), leaf(api.ReNone)
	universe := api.Set{{Lo: 0, Hi: maxRune}}
	rest := api.Set{{Lo: 0, Hi: 'a' - 1}, {Lo: 'd', Hi: maxRune}}
	two := []api.Set{a.Set, {{Lo: 'b', Hi: 'c'}}, rest}
	for _, r := range []api.Re{none, leaf(api.ReEps), all(), set(0, maxRune), of(api.ReStar, set(0, maxRune)), of(api.ReCat, leaf(api.ReEps), none)} {
		mustPart(t, r, []api.Set{universe})
	}
	mustPart(t, ac, []api.Set{ac.Set, rest})
	for _, r := range []api.Re{of(api.ReAlt, a, ac), of(api.ReAlt, ac, a), of(api.ReCat, none, ac, a), of(api.ReAnd, a, ac), of(api.ReNot, of(api.ReStar, of(api.ReCat, ac, of(api.ReNot, a), ac)))} {
		mustPart(t, r, two)
	}
	mustPart(t, of(api.ReCat, one('z'), one('a')), []api.Set{a.Set, one('z').Set, set(0, 'a'-1, 'b', 'y', 'z'+1, maxRune).Set})
	for _, r := range pool() {
		mustPart(t, r, charset.Parts(sets(r)...))
	}
}

// Promise P604: Match tells whether the whole text is matched.
func TestP604Match(t *testing.T) {
	for _, r := range pool() {
		for _, s := range texts() {
			is, e := deriv.Match(r, s)
			if e != api.OK {
				t.Errorf("Match(%v, %q) has the error %d", show(r), s, e)
			}
			mustAgree(t, "Match", r, []rune(s), is, matches(r, []rune(s)))
		}
	}
}

// Promise P604: a byte that is not part of valid UTF-8 is the code point 65533.
func TestP604InvalidBytes(t *testing.T) {
	wrong, latin, euro := one(65533), one(0xe9), one(0x20ac)
	for _, x := range []struct {
		r    api.Re
		s    string
		want bool
	}{
		{latin, "\u00e9", true}, {latin, "\xe9", false}, {wrong, "\xe9", true}, {wrong, "\ufffd", true}, {times(wrong, 2), "\u00e9", false},
		{euro, "\u20ac", true}, {times(wrong, 2), "\xe2\x82", true}, {times(wrong, 3), "\u20ac", false}, {times(wrong, 3), "\xed\xa0\x80", true}, {one(0xd800), "\xed\xa0\x80", false},
		{of(api.ReNot, wrong), "\x80", false}, {of(api.ReCat, latin, wrong, one('a')), "\u00e9\xc3a", true},
	} {
		mustAgree(t, "Match", x.r, []rune(x.s), first(deriv.Match(x.r, x.s)), x.want)
	}
}

// first is the first of two results.
func first(is bool, _ api.Errno) bool { return is }

// Promise P604: a text of MaxText bytes is matched, and a longer one is refused, whatever the expression is.
func TestP604MatchLimit(t *testing.T) {
	star := of(api.ReStar, one('a'))
	for _, x := range []struct {
		s    string
		want bool
		e    api.Errno
	}{
		{strings.Repeat("a", api.MaxText), true, api.OK},
		{strings.Repeat("a", api.MaxText-1) + "b", false, api.OK},
		{"b" + strings.Repeat("a", api.MaxText-1), false, api.OK},
		{strings.Repeat("a", api.MaxText+1), false, api.ErrLong},
		{strings.Repeat("\u00e9", api.MaxText/2), false, api.OK},
		{strings.Repeat("\u00e9", api.MaxText/2+1), false, api.ErrLong},
	} {
		if is, e := deriv.Match(star, x.s); is != x.want || e != x.e {
			t.Errorf("Match of %d bytes is %v, %d", len(x.s), is, e)
		}
		for _, r := range []api.Re{all(), leaf(api.ReNone), {}, leaf(99)} {
			if is, e := deriv.Match(r, x.s); e != x.e || is != (r.Kind == api.ReNot && e == api.OK) {
				t.Errorf("Match(%v) of %d bytes is %v, %d", show(r), len(x.s), is, e)
			}
		}
	}
}

// wantLongest is the second description of Longest, for a short text and an offset in it.
func wantLongest(r api.Re, s string, at int) (int, bool) {
	end, found := 0, false
	var w []rune
	for i, c := range s[at:] {
		if matches(r, w) {
			end, found = at+i, true
		}
		w = append(w, c)
	}
	if matches(r, w) {
		end, found = len(s), true
	}
	return end, found
}

// Promise P604: Longest answers the largest end, from each offset, those within a rune too.
func TestP604Longest(t *testing.T) {
	for _, r := range pool() {
		for _, s := range texts() {
			for at := range len(s) + 1 {
				end, found := deriv.Longest(r, s, at)
				if want, is := wantLongest(r, s, at); end != want || found != is {
					t.Errorf("Longest(%v, %q, %d) = %d, %v, want %d, %v", show(r), s, at, end, found, want, is)
				}
			}
			for _, at := range []int{math.MinInt, -len(s), -1, len(s) + 1, len(s) + 2, math.MaxInt} {
				if end, found := deriv.Longest(r, s, at); at != 0 && (end != 0 || found) {
					t.Errorf("Longest(%v, %q, %d) = %d, %v", show(r), s, at, end, found)
				}
			}
		}
	}
}

// Promise P604: Longest goes on behind a match and past what does not match, takes the empty text, and reads the runes that stand behind the offset.
func TestP604LongestExamples(t *testing.T) {
	a, b, wrong := one('a'), one('b'), one(65533)
	star, pairs := of(api.ReStar, a), of(api.ReStar, of(api.ReCat, a, b))
	for _, x := range []struct {
		r     api.Re
		s     string
		at    int
		end   int
		found bool
	}{
		{star, "baa", 1, 3, true}, {star, "baa", 0, 0, true}, {star, "baa", 3, 3, true}, {star, "baab", 1, 3, true}, {star, "", 0, 0, true},
		{pairs, "ababa", 0, 4, true}, {pairs, "ababa", 1, 1, true}, {pairs, "ababa", 4, 4, true}, {of(api.ReAlt, a, times(a, 3)), "aa", 0, 1, true}, {of(api.ReAlt, a, times(a, 3)), "aaaa", 0, 3, true},
		{a, "", 0, 0, false}, {a, "b", 0, 0, false}, {a, "a", 1, 0, false}, {a, "aa", -1, 0, false}, {a, "a", 2, 0, false},
		{all(), "\u00e9\xff", 0, 3, true}, {of(api.ReNot, leaf(api.ReEps)), "", 0, 0, false},
		{wrong, "\u00e9", 0, 0, false}, {wrong, "\u00e9", 1, 2, true}, {of(api.ReStar, wrong), "\u20ac\u20ac", 1, 3, true}, {of(api.ReStar, wrong), "\xe2\x82a", 0, 2, true}, {of(api.ReStar, one(0xe9)), "\u00e9\u00e9\xc3", 0, 4, true},
	} {
		if end, found := deriv.Longest(x.r, x.s, x.at); end != x.end || found != x.found {
			t.Errorf("Longest(%v, %q, %d) = %d, %v", show(x.r), x.s, x.at, end, found)
		}
	}
}

// Promise P604: Longest takes a text of MaxText bytes from any offset, and finds nothing in a longer one, however little of that is behind the offset.
func TestP604LongestLimit(t *testing.T) {
	star := of(api.ReStar, one('a'))
	s := strings.Repeat("a", api.MaxText)
	for _, at := range []int{0, 1, api.MaxText - 1, api.MaxText} {
		if end, found := deriv.Longest(star, s, at); end != api.MaxText || !found {
			t.Errorf("Longest from %d is %d, %v", at, end, found)
		}
	}
	for _, at := range []int{0, 1, api.MaxText, api.MaxText + 1} {
		if end, found := deriv.Longest(star, s+"a", at); end != 0 || found {
			t.Errorf("Longest from %d of a text that is too long is %d, %v", at, end, found)
		}
	}
	if end, found := deriv.Longest(regex.Lit("aa"), s[:api.MaxText-1]+"b", api.MaxText-3); end != api.MaxText-1 || !found {
		t.Errorf("Longest is %d, %v", end, found)
	}
}
