package resyntax_test

import (
	"math"
	"slices"
	"testing"

	"arborist/api"
	"arborist/resyntax"
)

// maxRune is the last code point as a rune.
const maxRune rune = api.MaxRune

// leaf is an expression of the given kind without Set and Kids.
func leaf(kind api.ReKind) api.Re { return api.Re{Kind: kind} }

// of is an expression of the given kind with the given Kids.
func of(kind api.ReKind, kids ...api.Re) api.Re { return api.Re{Kind: kind, Kids: kids} }

// bounds is the set of the given bounds: the Lo and the Hi of each range.
func bounds(l ...rune) api.Set {
	var s api.Set
	for i := 0; i+1 < len(l); i += 2 {
		s = append(s, api.Range{Lo: l[i], Hi: l[i+1]})
	}
	return s
}

// set is the ReSet of the given bounds.
func set(l ...rune) api.Re { return api.Re{Kind: api.ReSet, Set: bounds(l...)} }

// one is the expression that matches the rune c alone.
func one(c rune) api.Re { return set(c, c) }

// all is the expression that matches every text.
func all() api.Re { return of(api.ReNot, leaf(api.ReNone)) }

// chain is n nodes of the given kind, one in the other, with r in the innermost one and, in each of them, the others behind its first Kid.
func chain(n int, kind api.ReKind, r api.Re, others ...api.Re) api.Re {
	for range n {
		r = of(kind, append([]api.Re{r}, others...)...)
	}
	return r
}

// cut is s, cut if it is long.
func cut(s string) string {
	const most = 200
	if len(s) > most {
		return s[:most] + " .."
	}
	return s
}

// equal reports whether all Kinds, Sets and Kids of a and b are equal.
func equal(a, b api.Re) bool {
	return a.Kind == b.Kind && slices.Equal(a.Set, b.Set) && slices.EqualFunc(a.Kids, b.Kids, equal)
}

// holds reports whether s contains c.
func holds(s api.Set, c rune) bool {
	return slices.ContainsFunc(s, func(q api.Range) bool { return q.Lo <= c && c <= q.Hi })
}

// matches tells whether r matches the word w by trying all ways to divide it among the parts of r.
func matches(r api.Re, w []rune) bool {
	switch r.Kind {
	case api.ReEps:
		return len(w) == 0
	case api.ReSet:
		return len(w) == 1 && holds(r.Set, w[0])
	case api.ReCat:
		return matchesAll(r.Kids, w)
	case api.ReAlt:
		return slices.ContainsFunc(r.Kids, func(kid api.Re) bool { return matches(kid, w) })
	case api.ReAnd:
		return !slices.ContainsFunc(r.Kids, func(kid api.Re) bool { return !matches(kid, w) })
	case api.ReNot:
		return !matches(r.Kids[0], w)
	case api.ReStar:
		for n := 1; n <= len(w); n++ {
			if matches(r.Kids[0], w[:n]) && matches(r, w[n:]) {
				return true
			}
		}
		return len(w) == 0
	}
	return false
}

// matchesAll reports whether w is a concatenation of what the expressions of l match.
func matchesAll(l []api.Re, w []rune) bool {
	if len(l) == 0 {
		return len(w) == 0
	}
	for n := range len(w) + 1 {
		if matches(l[0], w[:n]) && matchesAll(l[1:], w[n:]) {
			return true
		}
	}
	return false
}

// words are all words of at most n of the letters.
func words(n int, letters ...rune) [][]rune {
	l := [][]rune{nil}
	for from := 0; n > 0; n-- {
		last := l[from:]
		from = len(l)
		for _, w := range last {
			for _, c := range letters {
				l = append(l, append(slices.Clone(w), c))
			}
		}
	}
	return l
}

// texts are all texts of at most n of the pieces, with first ahead of them.
func texts(n int, first string, pieces ...string) []string {
	l := []string{first}
	for from := 0; n > 0; n-- {
		last := l[from:]
		from = len(l)
		for _, s := range last {
			for _, piece := range pieces {
				l = append(l, s+piece)
			}
		}
	}
	return l
}

// numbers answers numbers from 0 to most - 1 that look random and are always the same.
func numbers(seed uint32) func(most int) int {
	return func(most int) int {
		seed = seed*1664525 + 1013904223
		return int(seed>>16) % most
	}
}

// leaves are valid expressions of one node.
func leaves() []api.Re {
	return []api.Re{leaf(api.ReNone), leaf(api.ReEps), one('a'), one('b'), set('a', 'b'), set('b', 'b', 0xe9, 0xe9), set(0, 'a', 0xe9, maxRune), set(0, maxRune), set(0, 9, 11, maxRune)}
}

// pool are valid expressions, most of them not in normal form: all of two nodes or three with leaves as Kids, and some larger ones.
func pool() []api.Re {
	l := append(leaves(), all(), of(api.ReNot, all()), of(api.ReStar, all()))
	for _, a := range leaves() {
		l = append(l, of(api.ReNot, a), of(api.ReStar, a))
		for _, b := range leaves() {
			l = append(l, of(api.ReCat, a, b), of(api.ReAlt, a, b), of(api.ReAnd, a, b))
		}
	}
	next := numbers(1)
	for len(l) < 1500 {
		r := of(api.ReCat + api.ReKind(next(5)))
		count := 1
		if r.Kind <= api.ReAnd {
			count = 2 + next(3)
		}
		for range count {
			// Small Kids are as frequent as large ones, so that the size does not grow with the number.
			if next(2) == 0 {
				r.Kids = append(r.Kids, l[next(len(leaves()))])
			} else {
				r.Kids = append(r.Kids, l[next(len(l))])
			}
		}
		if size(r) <= 25 {
			l = append(l, r)
		}
	}
	return l
}

// size is the number of nodes of all expressions of l.
func size(l ...api.Re) int {
	n := len(l)
	for _, r := range l {
		n += size(r.Kids...)
	}
	return n
}

// wild are expressions that are not valid.
func wild() []api.Re {
	a := one('a')
	l := []api.Re{{}, {Set: a.Set}, {Kids: []api.Re{a}}, leaf(-1), leaf(9), leaf(math.MinInt), leaf(math.MaxInt), of(9, a, a), of(-1, a)}
	for kind := api.ReNone; kind <= api.ReStar; kind++ {
		if kind > api.ReEps {
			l = append(l, leaf(kind), api.Re{Kind: kind, Set: api.Set{}, Kids: []api.Re{}})
		}
		if kind < api.ReNot {
			l = append(l, of(kind, a))
		}
		if kind < api.ReCat || kind > api.ReAnd {
			l = append(l, of(kind, a, a), of(kind, a, a, a))
		}
		l = append(l, of(kind, a, a, api.Re{}), api.Re{Kind: kind, Set: a.Set, Kids: []api.Re{a}}, api.Re{Kind: kind, Set: a.Set, Kids: []api.Re{a, a}})
	}
	for _, s := range wrongSets() {
		l = append(l, api.Re{Kind: api.ReSet, Set: s}, api.Re{Kind: api.ReNone, Set: s}, api.Re{Kind: api.ReEps, Set: s}, of(api.ReStar, api.Re{Kind: api.ReSet, Set: s}))
	}
	for _, r := range slices.Clone(l) {
		l = append(l, of(api.ReStar, r), of(api.ReNot, r), of(api.ReAlt, a, r), of(api.ReAnd, r, set('a', 'z')), of(api.ReCat, r, r, a))
	}
	return append(l,
		chain(api.MaxDeep, api.ReStar, a), chain(api.MaxDeep, api.ReNot, a), chain(api.MaxDeep, api.ReCat, a, a),
		of(api.ReCat, slices.Repeat([]api.Re{a}, api.MaxRe)...), of(api.ReAlt, slices.Repeat([]api.Re{a}, 100000)...),
	)
}

// wrongSets are sets that are not canonical.
func wrongSets() []api.Set {
	return []api.Set{
		bounds('b', 'a'), bounds(-1, 4), bounds(-1, -1), bounds(5, maxRune+1), bounds(maxRune+1, maxRune+1), bounds('a', 'b', 'c', 'd'), bounds('c', 'd', 'a', 'b'),
		bounds('a', 'c', 'b', 'd'), bounds('a', 'a', 'a', 'a'), bounds(math.MinInt32, math.MaxInt32), bounds('a', 'b', 'z', 'y'),
	}
}

// mustRead answers what Read makes of s, which it has to accept.
func mustRead(t *testing.T, s string) api.Re {
	t.Helper()
	r, d := resyntax.Read(s)
	if d != (api.Diag{}) {
		t.Errorf("Read(%q) has the error %v", cut(s), d)
	}
	return r
}

// mustFail tells if Read does not answer the given error alone.
func mustFail(t *testing.T, s string, e api.Errno, at int) {
	t.Helper()
	r, d := resyntax.Read(s)
	if d != (api.Diag{Kind: e, At: at}) || r.Kind != 0 || r.Set != nil || r.Kids != nil {
		t.Errorf("Read(%q) = %v, %v, want the error %d at %d", cut(s), r.Kind, d, e, at)
	}
}
