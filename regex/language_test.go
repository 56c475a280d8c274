package regex_test

import (
	"slices"
	"testing"

	"arborist/api"
	"arborist/regex"
)

// language is the set of words that an expression matches, one bit a word, among the words of at most three of the letters a, b and x.
type language uint64

// words are these words; the empty one is the first.
func words() []string {
	l := []string{""}
	for from := 0; len(l[from]) < 3; from++ {
		for _, letter := range []string{"a", "b", "x"} {
			l = append(l, l[from]+letter)
		}
	}
	return l
}

// meaning tells the languages of expressions.
type meaning struct {
	words []string
	// joined holds the number of the concatenation of two words, or -1 if that is too long.
	joined [][]int
}

// newMeaning lists the words and their concatenations.
func newMeaning() meaning {
	m := meaning{words: words()}
	for _, v := range m.words {
		var row []int
		for _, w := range m.words {
			row = append(row, slices.Index(m.words, v+w))
		}
		m.joined = append(m.joined, row)
	}
	return m
}

// full is the language of all words.
func (m meaning) full() language { return 1<<len(m.words) - 1 }

// cat is the language of the concatenations of words of a and of b.
func (m meaning) cat(a, b language) language {
	var l language
	for i := range m.words {
		for j := range m.words {
			if a>>i&1 == 1 && b>>j&1 == 1 && m.joined[i][j] >= 0 {
				l |= 1 << m.joined[i][j]
			}
		}
	}
	return l
}

// power is the language of low to high repetitions of words of a, or of low and more if high is -1.
func (m meaning) power(a language, low, high int) language {
	if high == -1 {
		// More than three words, of which none is empty, make a word that is too long.
		high = low + 4
	}
	var l language
	once := language(1)
	for n := 0; n <= high; n++ {
		if n >= low {
			l |= once
		}
		once = m.cat(once, a)
	}
	return l
}

// of is the language of r.
func (m meaning) of(r api.Re) language {
	var l language
	switch r.Kind {
	case api.ReEps:
		l = 1
	case api.ReSet:
		for i, w := range m.words {
			if len(w) == 1 && slices.ContainsFunc(r.Set, func(q api.Range) bool { return q.Lo <= rune(w[0]) && rune(w[0]) <= q.Hi }) {
				l |= 1 << i
			}
		}
	case api.ReCat:
		l = m.ofCat(r.Kids)
	case api.ReAlt:
		l = m.ofAlt(r.Kids)
	case api.ReAnd:
		l = m.ofAnd(r.Kids)
	case api.ReNot:
		l = m.full() &^ m.of(r.Kids[0])
	case api.ReStar:
		l = m.power(m.of(r.Kids[0]), 0, -1)
	}
	return l
}

// ofCat is the language of the concatenations of what l match.
func (m meaning) ofCat(l []api.Re) language {
	a := language(1)
	for _, r := range l {
		a = m.cat(a, m.of(r))
	}
	return a
}

// ofAlt is the language of what at least one of l matches.
func (m meaning) ofAlt(l []api.Re) language {
	var a language
	for _, r := range l {
		a |= m.of(r)
	}
	return a
}

// ofAnd is the language of what all of l match.
func (m meaning) ofAnd(l []api.Re) language {
	a := m.full()
	for _, r := range l {
		a &= m.of(r)
	}
	return a
}

// lists are lists of up to three expressions.
func lists() [][]api.Re {
	l := [][]api.Re{nil}
	for _, a := range tame() {
		l = append(l, []api.Re{a})
		for _, b := range tame() {
			l = append(l, []api.Re{a, b})
		}
	}
	for i, a := range few() {
		for _, b := range few()[i:] {
			for k, c := range few() {
				// Each pair meets a part of the others only, which part changing from one to the next.
				if (k+len(l))%2 == 0 {
					l = append(l, []api.Re{a, b, c})
				}
			}
		}
	}
	return append(l, tame(), few())
}

// Promise P405: the results of Cat, Alt and And match what they should.
func TestP405Lists(t *testing.T) {
	m := newMeaning()
	for _, l := range lists() {
		if m.of(regex.Cat(l...)) != m.ofCat(l) {
			t.Errorf("Cat of %v matches other words", show(l...))
		}
		if m.of(regex.Alt(l...)) != m.ofAlt(l) {
			t.Errorf("Alt of %v matches other words", show(l...))
		}
		if m.of(regex.And(l...)) != m.ofAnd(l) {
			t.Errorf("And of %v matches other words", show(l...))
		}
	}
}

// Promise P405: the results of Not, Star and Times match what they should.
func TestP405Repetitions(t *testing.T) {
	m := newMeaning()
	for _, r := range tame() {
		is := m.of(r)
		if m.of(regex.Not(r)) != m.full()&^is {
			t.Errorf("Not of %v matches other words", show(r))
		}
		if m.of(regex.Star(r)) != m.power(is, 0, -1) {
			t.Errorf("Star of %v matches other words", show(r))
		}
		for low := range 5 {
			for high := -1; high < 7; high++ {
				if !inBounds(low, high) {
					continue
				}
				x, e := regex.Times(r, low, high)
				if e != api.OK || m.of(x) != m.power(is, low, high) {
					t.Errorf("Times(%v, %d, %d) matches other words, or has the error %d", show(r), low, high, e)
				}
			}
		}
	}
}

// Promise P405: Lit matches exactly its text, and OfSet exactly the runes of its set.
func TestP405Leaves(t *testing.T) {
	m := newMeaning()
	for i, w := range m.words {
		if m.of(regex.Lit(w)) != 1<<i {
			t.Errorf("Lit(%q) matches other words", w)
		}
	}
	for _, r := range leaves() {
		if r.Kind == api.ReSet && m.of(regex.OfSet(r.Set)) != m.of(r) {
			t.Errorf("OfSet(%v) matches other words", r.Set)
		}
	}
}

// orders are the rotations of l and their reversals: all orders, if l has three expressions.
func orders(l []api.Re) [][]api.Re {
	var o [][]api.Re
	for i := range l {
		turned := slices.Concat(l[i:], l[:i])
		back := slices.Clone(turned)
		slices.Reverse(back)
		o = append(o, turned, back)
	}
	return o
}

// Promise P405: the results of Alt and And do not depend on the order of the arguments.
func TestP405Order(t *testing.T) {
	for _, l := range lists() {
		alt, and := regex.Alt(l...), regex.And(l...)
		for _, turned := range orders(l) {
			mustBe(t, regex.Alt(turned...), alt, "Alt", turned...)
			mustBe(t, regex.And(turned...), and, "And", turned...)
		}
	}
}

// Promise P405: a result of Alt takes up the arguments from which it was built without a change.
func TestP405AltAgain(t *testing.T) {
	for _, l := range lists() {
		x := regex.Alt(l...)
		mustBe(t, regex.Alt(x), x, "Alt", x)
		mustBe(t, regex.Alt(x, x), x, "Alt", x, x)
		mustBe(t, regex.Alt(append([]api.Re{x}, l...)...), x, "Alt of its result and", l...)
		for i, r := range l {
			mustBe(t, regex.Alt(x, r), x, "Alt", x, r)
			mustBe(t, regex.Alt(r, x), x, "Alt", r, x)
			mustBe(t, regex.Alt(append([]api.Re{x}, l[i:]...)...), x, "Alt of its result and", l[i:]...)
		}
	}
}

// Promise P406: no result has more nodes, or is deeper, than the arguments allow.
func TestP406Lists(t *testing.T) {
	for _, l := range lists() {
		for call, r := range map[string]api.Re{"Cat": regex.Cat(l...), "Alt": regex.Alt(l...), "And": regex.And(l...)} {
			if call == "And" && len(l) == 0 {
				continue
			}
			if n := size(r); n > 1+size(l...) {
				t.Errorf("%s of %v has %d nodes", call, show(l...), n)
			}
			if n := depth(r); n > 1+depth(l...) {
				t.Errorf("%s of %v has the depth %d", call, show(l...), n)
			}
		}
	}
	if r := regex.And(); size(r) != 2 || depth(r) != 2 {
		t.Errorf("And() = %v", r)
	}
	if size(regex.Cat()) != 1 || size(regex.Alt()) != 1 {
		t.Error("Cat and Alt of nothing")
	}
}

// Promise P406: Not and Star add at most one node and one level, and Times what its bounds allow.
func TestP406Repetitions(t *testing.T) {
	for _, r := range append(tame(), chain(api.ReStar, 60, set('a', 'a')), wide(api.ReAlt, 25)) {
		n, levels := size(r), depth(r)
		for _, x := range []api.Re{regex.Not(r), regex.Star(r)} {
			if size(x) > n+1 || depth(x) > levels+1 {
				t.Errorf("%v, answered for %v, is too large", show(x), show(r))
			}
		}
		for low := range 8 {
			for high := -1; high < 12; high++ {
				if !inBounds(low, high) {
					continue
				}
				most := 1 + low*n + (high-low)*(n+2)
				if high == -1 {
					most = 2 + (low+1)*n
				}
				x, e := regex.Times(r, low, high)
				if e != api.OK || size(x) > most || depth(x) > levels+2 {
					t.Errorf("Times(%v, %d, %d) = %v, %d is too large", show(r), low, high, show(x), e)
				}
			}
		}
	}
}

// Promise P406: OfSet answers one node, and Lit at most one node more than the text has runes.
func TestP406Leaves(t *testing.T) {
	for _, r := range append(wild(), leaves()...) {
		if x := regex.OfSet(r.Set); size(x) != 1 || depth(x) != 1 {
			t.Errorf("OfSet(%v) = %v", r.Set, x)
		}
	}
	for _, s := range []string{"", "a", "\xff", "ab", "\u00e9\xff\u20ac", "aaaaaaaaaaaaaaaaaaaaaaaa"} {
		runes := 0
		for range s {
			runes++
		}
		if x := regex.Lit(s); size(x) > runes+1 || depth(x) > min(2, 1+runes) {
			t.Errorf("Lit(%q) = %v", s, x)
		}
	}
}
