package dfa_test

import (
	"strings"
	"testing"

	"arborist/api"
	"arborist/dfa"
	"arborist/regex"
)

// Promise P702: the example of the chapter, and some more whose DFAs are plain.
func TestP702Examples(t *testing.T) {
	a, b, ab := one('a'), one('b'), set('a', 'b')
	for _, x := range []struct {
		name string
		l    []api.Re
		want api.Dfa
	}{
		{"no expressions", nil, machine(state(-1))},
		{"nothing", []api.Re{leaf(api.ReNone)}, machine(state(-1))},
		{"nothing, twice", []api.Re{leaf(api.ReNone), of(api.ReAnd, a, of(api.ReCat, a, a))}, machine(state(-1))},
		{"the empty text", []api.Re{leaf(api.ReNone), leaf(api.ReEps)}, machine(state(1))},
		{"every text", []api.Re{all()}, machine(state(0, arc(0, maxRune, 0)))},
		{"every rune", []api.Re{set(0, maxRune)}, machine(state(-1, arc(0, maxRune, 1)), state(0))},
		{"no surrogates", []api.Re{of(api.ReNot, set(0, 0xd7ff, 0xe000, maxRune))}, machine(state(0, arc(0, 0xd7ff, 1), arc(0xd800, 0xdfff, 2), arc(0xe000, maxRune, 1)), state(-1, arc(0, maxRune, 2)), state(0, arc(0, maxRune, 2)))},
		{"a and (a|b)*", []api.Re{a, star(ab)}, machine(state(1, arc('a', 'a', 1), arc('b', 'b', 2)), state(0, arc('a', 'b', 2)), state(1, arc('a', 'b', 2)))},
		{"(a|b)* and a", []api.Re{star(ab), a}, machine(state(0, arc('a', 'b', 0)))},
		{"the same twice", []api.Re{a, a}, machine(state(-1, arc('a', 'a', 1)), state(0))},
		{"ab or bb", []api.Re{of(api.ReAlt, of(api.ReCat, a, b), of(api.ReCat, b, b))}, machine(state(-1, arc('a', 'b', 1)), state(-1, arc('b', 'b', 2)), state(0))},
		{"ab and bb", []api.Re{of(api.ReCat, a, b), of(api.ReCat, b, b)}, machine(state(-1, arc('a', 'a', 1), arc('b', 'b', 2)), state(-1, arc('b', 'b', 3)), state(-1, arc('b', 'b', 4)), state(0), state(1))},
		{"b leads ahead of a", []api.Re{of(api.ReAlt, of(api.ReCat, set('b', 'b', 'x', 'x'), b), of(api.ReCat, set('c', 'c'), a))}, machine(state(-1, arc('b', 'b', 1), arc('c', 'c', 2), arc('x', 'x', 1)), state(-1, arc('b', 'b', 3)), state(-1, arc('a', 'a', 3)), state(0))},
		{"an end that is dead", []api.Re{of(api.ReCat, a, of(api.ReAnd, a, b)), b}, machine(state(-1, arc('b', 'b', 1)), state(1))},
	} {
		mustEqual(t, x.name, mustBe(t, x.l...), x.want)
	}
}

// Promise P702: the error is that of the first expression that is not valid.
func TestP702Errors(t *testing.T) {
	a := one('a')
	for _, r := range wild() {
		e := regex.Right(r)
		for _, l := range [][]api.Re{{r}, {a, r}, {r, a, {}}, {far(64), r, leaf(9)}} {
			if d, got := dfa.Of(l...); e != api.OK && (got != e || d.States != nil) {
				t.Fatalf("Of with %s: error %d, want %d", show(r), got, e)
			}
		}
	}
	for _, x := range []struct {
		l    []api.Re
		want api.Errno
	}{
		{[]api.Re{{}}, api.ErrKind},
		{[]api.Re{a, of(api.ReStar), {}}, api.ErrCount},
		{[]api.Re{set('b', 'a'), {}}, api.ErrClass},
		{[]api.Re{times(a, api.MaxRe), {}}, api.ErrLong},
		{[]api.Re{chain(api.MaxDeep, a)}, api.ErrDeep},
		{[]api.Re{a, chain(api.MaxDeep-1, a)}, api.OK},
		{[]api.Re{all(), leaf(api.ReNone), {Kind: api.ReEps, Set: a.Set}}, api.ErrClass},
	} {
		if _, e := dfa.Of(x.l...); e != x.want {
			t.Errorf("Of(%s): error %d, want %d", show(x.l), e, x.want)
		}
	}
}

// Promise P702: the DFA accepts what an expression matches with the smallest index of one that does.
func TestP702Language(t *testing.T) {
	short := words(4, 'a', 'b', 0xe9)
	for _, l := range lists() {
		d := mustBe(t, l...)
		for _, w := range short {
			if got, want := output(d, w), firstMatch(l, w); got != want {
				t.Fatalf("Of(%s) accepts %q with %d, want %d", show(l), string(w), got, want)
			}
		}
	}
}

// Promise P702: the DFA is the minimal one of the lists to which the list leads, and each list with at most 200 of them has one.
func TestP702Minimal(t *testing.T) {
	for _, l := range append(lists(), hard()...) {
		d := leads(l, 200)
		if len(d.States) == 0 {
			continue
		}
		mustEqual(t, "Of "+show(l), mustBe(t, l...), minimal(d))
		if n := dfa.Lists(l...); n != len(d.States) {
			t.Fatalf("Of(%s) tells %d lists apart, want %d", show(l), n, len(d.States))
		}
	}
}

// hard are lists of expressions whose parts become known as equal, or empty, only by and by, in all kinds of surroundings.
func hard() [][]api.Re {
	var l [][]api.Re
	a, b, ab, eps, none := one('a'), one('b'), set('a', 'b'), leaf(api.ReEps), leaf(api.ReNone)
	word := of(api.ReCat, star(a), b)
	row := of(api.ReCat, star(a), star(b), star(a))
	parts := []api.Re{
		word, of(api.ReCat, eps, word), of(api.ReAlt, none, word), of(api.ReAnd, all(), word), of(api.ReNot, of(api.ReNot, word)), of(api.ReAlt, word, word), of(api.ReAnd, word, word),
		of(api.ReCat, a, none), of(api.ReNot, of(api.ReCat, a, none)), of(api.ReAlt, b, a), of(api.ReAlt, star(b), star(a)), of(api.ReAlt, star(a), star(b)), star(star(a)), star(eps), of(api.ReCat, word, eps), of(api.ReCat, star(a), eps, star(b)),
		of(api.ReAnd, of(api.ReNot, of(api.ReCat, a, none)), word), of(api.ReAlt, of(api.ReAlt, word, none), none), row, of(api.ReCat, of(api.ReCat, star(a), star(b)), star(a)), of(api.ReCat, star(a), of(api.ReCat, star(b), star(a))),
		of(api.ReNot, of(api.ReCat, b, of(api.ReNot, of(api.ReCat, of(api.ReCat, star(a), star(b)), star(a))))), of(api.ReNot, of(api.ReCat, b, of(api.ReNot, row))),
		of(api.ReAlt, of(api.ReCat, a, ab), of(api.ReCat, b, a), of(api.ReCat, b, b)), of(api.ReAlt, of(api.ReCat, a, of(api.ReAnd, ab, a)), of(api.ReCat, b, a)),
	}
	// The last part of a concatenation leads on b to another concatenation within one, which must become flat.
	last := of(api.ReAnd, of(api.ReNot, of(api.ReCat, b, of(api.ReNot, of(api.ReCat, of(api.ReCat, star(a), star(b)), star(a))))), of(api.ReCat, b, all()))
	l = append(l, []api.Re{of(api.ReAlt, of(api.ReCat, star(a), last), of(api.ReCat, one(0xe9), row))}, []api.Re{of(api.ReAlt, of(api.ReCat, star(a), star(a), of(api.ReCat, star(a), last)), of(api.ReCat, one(0xe9), row))})
	for _, x := range parts {
		for _, y := range parts {
			l = append(l,
				[]api.Re{of(api.ReCat, x, y)}, []api.Re{of(api.ReAlt, x, y)}, []api.Re{of(api.ReAnd, x, y)}, []api.Re{x, y}, []api.Re{of(api.ReCat, of(api.ReCat, x, y), x)},
				[]api.Re{of(api.ReCat, of(api.ReAnd, of(api.ReCat, b, x), of(api.ReCat, b, y)), star(a))}, []api.Re{star(of(api.ReCat, b, x, y))}, []api.Re{of(api.ReNot, of(api.ReCat, b, x)), of(api.ReCat, b, of(api.ReNot, y), star(b))},
			)
		}
	}
	return l
}

// Promise P702: ErrLimit tells that the minimal DFA has more than MaxDfa states, as do those of long words and of letters far from the end.
func TestP702Limit(t *testing.T) {
	word := func(n int) api.Re { return regex.Lit(strings.Repeat("a", n)) }
	for _, x := range []struct {
		name   string
		l      []api.Re
		states int
	}{
		{"a word of MaxDfa - 1 letters", []api.Re{word(api.MaxDfa - 1)}, api.MaxDfa},
		{"a word of MaxDfa letters", []api.Re{word(api.MaxDfa)}, 0},
		{"a word of as many letters as an expression can have", []api.Re{word(api.MaxRe - 1)}, 0},
		{"two words that share their end", []api.Re{of(api.ReAlt, word(1000), of(api.ReCat, one('b'), word(1000)))}, 1002},
		{"two words that are told apart", []api.Re{word(1000), of(api.ReCat, one('b'), word(1047))}, 0},
		{"two words of as many states as a DFA can have", []api.Re{word(1000), of(api.ReCat, one('b'), word(1046))}, api.MaxDfa},
		{"far 10", []api.Re{far(10)}, 2048},
		{"far 11", []api.Re{far(11)}, 0},
		{"far 20", []api.Re{far(20)}, 0},
		{"far 64", []api.Re{far(64)}, 0},
		{"what is not far 64", []api.Re{of(api.ReNot, far(64)), far(64)}, 0},
		{"far 9, told apart from a", []api.Re{one('a'), far(9)}, 1026},
	} {
		d, e := dfa.Of(x.l...)
		want := api.OK
		if x.states == 0 {
			want = api.ErrLimit
		}
		if e != want || len(d.States) != x.states {
			t.Errorf("%s: %d states, error %d, want %d states, error %d", x.name, len(d.States), e, x.states, want)
		}
	}
}

// Promise P702: lists that lead to few lists have a DFA, however large or ambiguous their expressions are.
func TestP702Large(t *testing.T) {
	a, b, ab, eps := one('a'), one('b'), set('a', 'b'), leaf(api.ReEps)
	next := numbers(6)
	letters := func(c rune) api.Dfa { return machine(state(0, arc('a', c, 0))) }
	many := func(n int, f func(i int) api.Re) []api.Re {
		var l []api.Re
		for i := range n {
			l = append(l, f(i))
		}
		return l
	}
	for _, x := range []struct {
		name string
		l    []api.Re
		want api.Dfa
	}{
		{"stars in a row", []api.Re{times(star(a), 2047)}, letters('a')},
		{"stars of two letters in a row", []api.Re{of(api.ReCat, append([]api.Re{star(ab)}, many(1500, func(i int) api.Re { return star([]api.Re{a, b, ab}[i%3]) })...)...)}, letters('b')},
		{"stars of many different sets in a row", []api.Re{of(api.ReCat, append([]api.Re{star(set('a', 'a'+49))}, many(2000, func(int) api.Re { return star(some(50, next)) })...)...)}, letters('a' + 49)},
		{"stars of stars", []api.Re{chain(99, ab)}, letters('b')},
		{"complements of complements", []api.Re{of(api.ReCat, star(ab), nest(97, api.ReNot, all()))}, machine(state(-1))},
		{"a star of an ambiguous expression", []api.Re{star(of(api.ReAlt, many(60, func(i int) api.Re { return times(ab, i+2) })...))}, machine(state(0, arc('a', 'b', 1)), state(-1, arc('a', 'b', 2)), state(0, arc('a', 'b', 2)))},
		{"optional letters in a star", []api.Re{star(times(maybe(ab), 60))}, letters('b')},
		{"empty texts", []api.Re{times(eps, 4095)}, machine(state(0))},
		{"a union of sets", []api.Re{star(of(api.ReAlt, many(2000, func(i int) api.Re { return one('a' + rune(i)) })...))}, letters('a' + 1999)},
		{"a union of words", []api.Re{star(of(api.ReAlt, many(1000, func(i int) api.Re { return of(api.ReCat, one('a'+rune(i)), star(ab)) })...))}, letters('a' + 999)},
		{"a thousand expressions", many(1000, func(i int) api.Re { return star(set('a', 'a'+rune(i%7))) }), machine(
			state(0, arc('a', 'a', 0), arc('b', 'b', 1), arc('c', 'c', 2), arc('d', 'd', 3), arc('e', 'e', 4), arc('f', 'f', 5), arc('g', 'g', 6)),
			state(1, arc('a', 'b', 1), arc('c', 'c', 2), arc('d', 'd', 3), arc('e', 'e', 4), arc('f', 'f', 5), arc('g', 'g', 6)),
			state(2, arc('a', 'c', 2), arc('d', 'd', 3), arc('e', 'e', 4), arc('f', 'f', 5), arc('g', 'g', 6)),
			state(3, arc('a', 'd', 3), arc('e', 'e', 4), arc('f', 'f', 5), arc('g', 'g', 6)),
			state(4, arc('a', 'e', 4), arc('f', 'f', 5), arc('g', 'g', 6)),
			state(5, arc('a', 'f', 5), arc('g', 'g', 6)),
			state(6, arc('a', 'g', 6)),
		)},
	} {
		mustEqual(t, x.name, mustBe(t, x.l...), x.want)
	}
}

// some is the set of some of the n letters from a on.
func some(n int, next func(most int) int) api.Re {
	r := one('a' - 2)
	for c := range rune(n) {
		if next(2) == 0 {
			continue
		}
		if last := len(r.Set) - 1; r.Set[last].Hi == 'a'+c-1 {
			r.Set[last].Hi++
		} else {
			r.Set = append(r.Set, api.Range{Lo: 'a' + c, Hi: 'a' + c})
		}
	}
	r.Set = r.Set[1:]
	return r
}

// nest is r within n expressions of the given kind.
func nest(n int, kind api.ReKind, r api.Re) api.Re {
	for range n {
		r = of(kind, r)
	}
	return r
}

// Promise P702: a set of very many ranges has as many arcs.
func TestP702ManyRanges(t *testing.T) {
	var odd, even api.Set
	for c := rune(0); c < maxRune; c += 2 {
		even = append(even, api.Range{Lo: c, Hi: c})
		odd = append(odd, api.Range{Lo: c + 1, Hi: c + 1})
	}
	x, y := api.Re{Kind: api.ReSet, Set: odd}, api.Re{Kind: api.ReSet, Set: even}
	d := mustBe(t, of(api.ReCat, x, y), of(api.ReCat, y, x))
	if len(d.States) != 5 || len(d.States[0].Arcs) != api.MaxRune+1 || len(d.States[1].Arcs) != len(odd) || len(d.States[2].Arcs) != len(even) {
		t.Fatal(len(d.States), len(d.States[0].Arcs))
	}
	for _, c := range []rune{0, 1, 'a', 0xd800, 0xdfff, maxRune - 1, maxRune} {
		if got := output(d, []rune{c, c + 1}); c < maxRune && got != 1-int(c%2) {
			t.Errorf("%d: output %d", c, got)
		}
	}
	mustEqual(t, "the union", mustBe(t, of(api.ReAlt, x, y)), machine(state(-1, arc(0, maxRune, 1)), state(0)))
}
