package dfa_test

import (
	"fmt"
	"math"
	"slices"

	"arborist/api"
)

// maxRune is the last number of the alphabet as a rune.
const maxRune rune = api.MaxRune

// leaf is an expression of the given kind without Set and Kids.
func leaf(kind api.ReKind) api.Re { return api.Re{Kind: kind} }

// of is an expression of the given kind with the given Kids.
func of(kind api.ReKind, kids ...api.Re) api.Re { return api.Re{Kind: kind, Kids: kids} }

// set is the ReSet of the given bounds: the Lo and the Hi of each range.
func set(bounds ...rune) api.Re {
	r := api.Re{Kind: api.ReSet}
	for i := 0; i+1 < len(bounds); i += 2 {
		r.Set = append(r.Set, api.Range{Lo: bounds[i], Hi: bounds[i+1]})
	}
	return r
}

// one is the expression that matches the rune c alone.
func one(c rune) api.Re { return set(c, c) }

// star is any number of repetitions of r.
func star(r api.Re) api.Re { return of(api.ReStar, r) }

// maybe is r or the empty text.
func maybe(r api.Re) api.Re { return of(api.ReAlt, leaf(api.ReEps), r) }

// times is the concatenation of n copies of r.
func times(r api.Re, n int) api.Re { return of(api.ReCat, slices.Repeat([]api.Re{r}, n)...) }

// all is the expression that matches every text.
func all() api.Re { return of(api.ReNot, leaf(api.ReNone)) }

// far is the expression of the texts of a and b whose letter with n letters behind it is a. Its minimal DFA has 2 to the power of n + 1 states.
func far(n int) api.Re {
	ab := set('a', 'b')
	return of(api.ReCat, append([]api.Re{star(ab), one('a')}, slices.Repeat([]api.Re{ab}, n)...)...)
}

// show is a text for x, cut if it is long.
func show(x any) string {
	const most = 400
	s := fmt.Sprint(x)
	if len(s) > most {
		return s[:most] + " .."
	}
	return s
}

// holds reports whether s contains c.
func holds(s api.Set, c rune) bool {
	return slices.ContainsFunc(s, func(q api.Range) bool { return q.Lo <= c && c <= q.Hi })
}

// matches is the second description of matching: it tries all ways to divide the word w among the parts of r.
func matches(r api.Re, w []rune) bool {
	switch r.Kind {
	case api.ReEps:
		return len(w) == 0
	case api.ReSet:
		return len(w) == 1 && holds(r.Set, w[0])
	case api.ReCat:
		return matchesAll(r.Kids, w)
	case api.ReAlt:
		return slices.ContainsFunc(r.Kids, func(kid api.Re) bool { return matches(kid, w) })
	case api.ReAnd:
		return !slices.ContainsFunc(r.Kids, func(kid api.Re) bool { return !matches(kid, w) })
	case api.ReNot:
		return !matches(r.Kids[0], w)
	case api.ReStar:
		for n := 1; n <= len(w); n++ {
			if matches(r.Kids[0], w[:n]) && matches(r, w[n:]) {
				return true
			}
		}
		return len(w) == 0
	}
	return false
}

// matchesAll reports whether w is a concatenation of what the expressions of l match.
func matchesAll(l []api.Re, w []rune) bool {
	if len(l) == 0 {
		return len(w) == 0
	}
	for n := range len(w) + 1 {
		if matches(l[0], w[:n]) && matchesAll(l[1:], w[n:]) {
			return true
		}
	}
	return false
}

// firstMatch is the smallest index of an expression of l that matches w, or -1.
func firstMatch(l []api.Re, w []rune) int {
	return slices.IndexFunc(l, func(r api.Re) bool { return matches(r, w) })
}

// words are all words of at most n of the letters, the shorter ones first, and those of a length in lexicographic order if the letters are.
func words(n int, letters ...rune) [][]rune {
	l := [][]rune{nil}
	for from := 0; n > 0; n-- {
		last := l[from:]
		from = len(l)
		for _, w := range last {
			for _, c := range letters {
				l = append(l, append(slices.Clone(w), c))
			}
		}
	}
	return l
}

// numbers is a function that answers numbers below a bound, in a row that looks random and is always the same.
func numbers(seed uint32) func(most int) int {
	state := seed
	return func(most int) int {
		state = state*1664525 + 1013904223
		return int(state>>16) % most
	}
}

// size is the number of nodes of all expressions of l.
func size(l ...api.Re) int {
	n := len(l)
	for _, r := range l {
		n += size(r.Kids...)
	}
	return n
}

// leaves are valid expressions of one node.
func leaves() []api.Re {
	return []api.Re{leaf(api.ReNone), leaf(api.ReEps), one('a'), one('b'), set('a', 'b'), set('b', 'b', 0xe9, 0xe9), set(0, 'a', 0xe9, maxRune), set(0, maxRune)}
}

// tame are valid expressions, most of them not in normal form.
func tame() []api.Re {
	a, b, ab, none, eps := one('a'), one('b'), set('a', 'b'), leaf(api.ReNone), leaf(api.ReEps)
	l := append(leaves(), all(), of(api.ReNot, all()), of(api.ReNot, eps), of(api.ReNot, a), star(a), star(none), star(eps), star(star(b)), star(all()), far(2), of(api.ReNot, far(1)))
	for _, kind := range []api.ReKind{api.ReCat, api.ReAlt, api.ReAnd} {
		l = append(l,
			of(kind, a, b), of(kind, b, a), of(kind, b, a, b), of(kind, a, eps), of(kind, eps, eps), of(kind, none, ab), of(kind, all(), a), of(kind, all(), all()),
			of(kind, of(kind, of(kind, a, eps), star(b)), b), of(kind, of(api.ReCat, b, a), of(api.ReCat, a, b), of(api.ReCat, a, b)),
			of(kind, maybe(a), of(api.ReAnd, ab, b)), of(api.ReNot, of(kind, ab, eps)), star(of(kind, a, b, of(api.ReNot, b))),
			of(kind, star(a), star(a), star(ab)), of(kind, maybe(a), maybe(a), maybe(a), a),
			star(of(kind, star(ab), of(api.ReCat, a, maybe(b)))), of(api.ReCat, of(kind, of(api.ReCat, a, b), of(api.ReCat, a, ab)), of(kind, ab, of(api.ReCat, b, ab))),
		)
	}
	return l
}

// mixed are valid expressions of all kinds, n in all with leaves, put together by chance, many of them with parts that are not in normal form.
func mixed(n int, seed uint32) []api.Re {
	next := numbers(seed)
	l := leaves()
	for len(l) < n {
		kind := api.ReCat + api.ReKind(next(5))
		count := 1
		if kind <= api.ReAnd {
			count = 2 + next(2)
		}
		r := of(kind)
		for range count {
			// Small Kids are as frequent as large ones, so that the size does not grow with the number.
			if next(2) == 0 {
				r.Kids = append(r.Kids, l[next(len(leaves()))])
			} else {
				r.Kids = append(r.Kids, l[next(len(l))])
			}
		}
		if size(r) <= 25 {
			l = append(l, r)
		}
	}
	return l
}

// lists are lists of valid expressions.
func lists() [][]api.Re {
	l := [][]api.Re{nil}
	for _, r := range append(tame(), mixed(400, 1)...) {
		l = append(l, []api.Re{r})
	}
	next := numbers(2)
	single := len(l) - 1
	for range 300 {
		var list []api.Re
		for range 2 + next(3) {
			list = append(list, l[1+next(single)][0])
		}
		l = append(l, list)
	}
	return l
}

// wild are expressions that are not valid, or whose empty lists are not nil.
func wild() []api.Re {
	a := one('a')
	l := []api.Re{{}, {Set: a.Set}, {Kids: []api.Re{a}}, leaf(-1), leaf(9), leaf(math.MinInt), leaf(math.MaxInt), of(9, a, a), of(-1, a), times(a, api.MaxRe), chain(api.MaxDeep, a)}
	for kind := api.ReNone; kind <= api.ReStar; kind++ {
		l = append(l, leaf(kind), of(kind, a), of(kind, a, a), of(kind, a, a, a), of(kind, api.Re{}), of(kind, leaf(kind), leaf(kind)), api.Re{Kind: kind, Set: api.Set{}, Kids: []api.Re{}})
		for _, s := range []api.Re{set('b', 'a'), set(-1, 4), set(5, maxRune+1), set('a', 'b', 'c', 'd'), set('c', 'd', 'a', 'b'), set(math.MinInt32, math.MaxInt32), a} {
			l = append(l, api.Re{Kind: kind, Set: s.Set}, api.Re{Kind: kind, Set: s.Set, Kids: []api.Re{a}}, api.Re{Kind: kind, Set: s.Set, Kids: []api.Re{s, leaf(api.ReNone)}})
		}
	}
	for _, r := range slices.Clone(l) {
		l = append(l, star(r), of(api.ReNot, r), of(api.ReAlt, a, r), of(api.ReAnd, r, set('a', 'z')), of(api.ReCat, r, r, a))
	}
	return l
}

// chain is r within n stars.
func chain(n int, r api.Re) api.Re {
	for range n {
		r = star(r)
	}
	return r
}
