package deriv_test

import (
	"fmt"
	"math"
	"slices"
	"strings"
	"testing"

	"arborist/api"
	"arborist/regex"
)

// maxRune is the last code point as a rune.
const maxRune rune = api.MaxRune

// leaf is an expression of the given kind without Set and Kids.
func leaf(kind api.ReKind) api.Re { return api.Re{Kind: kind} }

// of is an expression of the given kind with the given Kids.
func of(kind api.ReKind, kids ...api.Re) api.Re { return api.Re{Kind: kind, Kids: kids} }

// set is the ReSet of the given bounds: the Lo and the Hi of each range.
func set(bounds ...rune) api.Re {
	r := api.Re{Kind: api.ReSet}
	for i := 0; i+1 < len(bounds); i += 2 {
		r.Set = append(r.Set, api.Range{Lo: bounds[i], Hi: bounds[i+1]})
	}
	return r
}

// one is the expression that matches the rune r alone.
func one(r rune) api.Re { return set(r, r) }

// all is the expression that matches every text.
func all() api.Re { return of(api.ReNot, leaf(api.ReNone)) }

// times is the concatenation of n copies of r.
func times(r api.Re, n int) api.Re { return of(api.ReCat, slices.Repeat([]api.Re{r}, n)...) }

// show is a text for the expressions of l, cut if it is long.
func show(l ...api.Re) string {
	const most = 300
	s := fmt.Sprint(l)
	if len(s) > most {
		return s[:most] + " .."
	}
	return s
}

// equal reports whether all Kinds, Sets and Kids of a and b are equal.
func equal(a, b api.Re) bool {
	return a.Kind == b.Kind && slices.Equal(a.Set, b.Set) && slices.EqualFunc(a.Kids, b.Kids, equal)
}

// isWellFormed reports whether r is valid but for its size and its depth.
func isWellFormed(r api.Re) bool {
	for _, kid := range r.Kids {
		if !isWellFormed(kid) {
			return false
		}
	}
	// With leaves for Kids the node is within the limits, however large they are.
	alone := api.Re{Kind: r.Kind, Set: r.Set, Kids: slices.Repeat([]api.Re{leaf(api.ReEps)}, min(3, len(r.Kids)))}
	return regex.Right(alone) == api.OK
}

// holds reports whether s contains c.
func holds(s api.Set, c rune) bool {
	return slices.ContainsFunc(s, func(q api.Range) bool { return q.Lo <= c && c <= q.Hi })
}

// matches is the second description of matching: it tries all ways to divide the word w among the parts of r.
func matches(r api.Re, w []rune) bool {
	switch r.Kind {
	case api.ReEps:
		return len(w) == 0
	case api.ReSet:
		return len(w) == 1 && holds(r.Set, w[0])
	case api.ReCat:
		return matchesAll(r.Kids, w)
	case api.ReAlt:
		return slices.ContainsFunc(r.Kids, func(kid api.Re) bool { return matches(kid, w) })
	case api.ReAnd:
		return !slices.ContainsFunc(r.Kids, func(kid api.Re) bool { return !matches(kid, w) })
	case api.ReNot:
		return !matches(r.Kids[0], w)
	case api.ReStar:
		for n := 1; n <= len(w); n++ {
			if matches(r.Kids[0], w[:n]) && matches(r, w[n:]) {
				return true
			}
		}
		return len(w) == 0
	}
	return false
}

// matchesAll reports whether w is a concatenation of what the expressions of l match.
func matchesAll(l []api.Re, w []rune) bool {
	if len(l) == 0 {
		return len(w) == 0
	}
	for n := range len(w) + 1 {
		if matches(l[0], w[:n]) && matchesAll(l[1:], w[n:]) {
			return true
		}
	}
	return false
}

// words are all words of at most n of the letters.
func words(n int, letters ...rune) [][]rune {
	l := [][]rune{nil}
	for from := 0; n > 0; n-- {
		last := l[from:]
		from = len(l)
		for _, w := range last {
			for _, c := range letters {
				l = append(l, append(slices.Clone(w), c))
			}
		}
	}
	return l
}

// leaves are well-formed expressions of one node.
func leaves() []api.Re {
	return []api.Re{leaf(api.ReNone), leaf(api.ReEps), one('a'), one('b'), set('a', 'b'), set('b', 'b', 0xe9, 0xe9), set(0, 'a', 0xe9, maxRune), set(0, maxRune)}
}

// tame are well-formed expressions, most of them not in normal form.
func tame() []api.Re {
	a, b, ab, none, eps := one('a'), one('b'), set('a', 'b'), leaf(api.ReNone), leaf(api.ReEps)
	l := append(leaves(), all(), of(api.ReNot, all()), of(api.ReNot, eps), of(api.ReNot, a), of(api.ReStar, a), of(api.ReStar, none), of(api.ReStar, eps), of(api.ReStar, of(api.ReStar, b)), of(api.ReStar, all()))
	for _, kind := range []api.ReKind{api.ReCat, api.ReAlt, api.ReAnd} {
		l = append(l,
			of(kind, a, b), of(kind, b, a), of(kind, b, a, b), of(kind, a, eps), of(kind, eps, eps), of(kind, none, ab), of(kind, all(), a), of(kind, all(), all()),
			of(kind, of(kind, of(kind, a, eps), of(api.ReStar, b)), b), of(kind, of(api.ReCat, b, a), of(api.ReCat, a, b), of(api.ReCat, a, b)),
			of(kind, of(api.ReAlt, a, eps), of(api.ReAnd, ab, b)), of(api.ReNot, of(kind, ab, eps)), of(api.ReStar, of(kind, a, b, of(api.ReNot, b))),
			of(kind, of(api.ReStar, a), of(api.ReStar, a), of(api.ReStar, ab)), of(kind, of(api.ReAlt, eps, a), of(api.ReAlt, eps, a), of(api.ReAlt, eps, a), a),
			of(api.ReStar, of(kind, of(api.ReStar, ab), of(api.ReCat, a, of(api.ReAlt, eps, b)))), of(api.ReCat, of(kind, of(api.ReCat, a, b), of(api.ReCat, a, ab)), of(kind, ab, of(api.ReCat, b, ab))),
		)
	}
	return l
}

// mixed are n well-formed expressions of all kinds, put together by a row of numbers that looks random and is always the same.
func mixed(n int) []api.Re {
	state := uint32(1)
	next := func(most int) int {
		state = state*1664525 + 1013904223
		return int(state>>16) % most
	}
	l := leaves()
	for len(l) < n {
		kind := api.ReCat + api.ReKind(next(5))
		count := 1
		if kind <= api.ReAnd {
			count = 2 + next(2)
		}
		r := of(kind)
		for range count {
			// Small Kids are as frequent as large ones, so that the size does not grow with the number.
			if next(2) == 0 {
				r.Kids = append(r.Kids, l[next(len(leaves()))])
			} else {
				r.Kids = append(r.Kids, l[next(len(l))])
			}
		}
		if size(r) <= 25 {
			l = append(l, r)
		}
	}
	return l
}

// pool are well-formed expressions.
func pool() []api.Re { return append(tame(), mixed(600)...) }

// wild are expressions that are not well formed, or whose empty lists are not nil.
func wild() []api.Re {
	a := one('a')
	l := []api.Re{{}, {Set: a.Set}, {Kids: []api.Re{a}}, leaf(-1), leaf(9), leaf(math.MinInt), leaf(math.MaxInt), of(9, a, a), of(-1, a)}
	for kind := api.ReNone; kind <= api.ReStar; kind++ {
		l = append(l, leaf(kind), of(kind, a), of(kind, a, a), of(kind, a, a, a), of(kind, api.Re{}), of(kind, leaf(kind), leaf(kind)), api.Re{Kind: kind, Set: api.Set{}, Kids: []api.Re{}})
		for _, s := range []api.Re{set('b', 'a'), set(-1, 4), set(5, maxRune+1), set('a', 'b', 'c', 'd'), set('c', 'd', 'a', 'b'), set(math.MinInt32, math.MaxInt32), a} {
			l = append(l, api.Re{Kind: kind, Set: s.Set}, api.Re{Kind: kind, Set: s.Set, Kids: []api.Re{a}}, api.Re{Kind: kind, Set: s.Set, Kids: []api.Re{s, leaf(api.ReNone)}})
		}
	}
	for _, r := range slices.Clone(l) {
		l = append(l, of(api.ReStar, r), of(api.ReNot, r), of(api.ReAlt, a, r), of(api.ReAnd, r, set('a', 'z')), of(api.ReCat, r, r, a))
	}
	return l
}

// size is the number of nodes of all expressions of l.
func size(l ...api.Re) int {
	n := len(l)
	for _, r := range l {
		n += size(r.Kids...)
	}
	return n
}

// letters are n of the letters a and b, in a row that looks random and is always the same.
func letters(n int) string {
	state := uint32(7)
	var b strings.Builder
	for range n {
		state = state*1664525 + 1013904223
		b.WriteByte("ab"[state>>31])
	}
	return b.String()
}

// far is the expression of the texts of a and b whose letter with n letters behind it is a. Its minimal automaton has 2 to the power of n + 1 states.
func far(n int) api.Re {
	ab := set('a', 'b')
	return of(api.ReCat, append([]api.Re{of(api.ReStar, ab), one('a')}, slices.Repeat([]api.Re{ab}, n)...)...)
}

// cycles is the expression of the texts of a and b whose length is a multiple of one of the lengths. It has as many derivatives as the lengths have a least common multiple.
func cycles(lengths ...int) api.Re {
	var l []api.Re
	for _, n := range lengths {
		l = append(l, of(api.ReStar, times(set('a', 'b'), n)))
	}
	return of(api.ReAlt, l...)
}

// isFar reports whether far(n) matches s, a text of a and b.
func isFar(s string, n int) bool { return len(s) > n && s[len(s)-1-n] == 'a' }

// mustAgree tells if what a call answers for r and the word w is not what is wanted.
func mustAgree(t *testing.T, call string, r api.Re, w []rune, got, want bool) {
	t.Helper()
	if got != want {
		t.Errorf("%s: %v and %q: %v, want %v", call, show(r), string(w), got, want)
	}
}
