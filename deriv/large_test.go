package deriv_test

import (
	"slices"
	"strings"
	"testing"

	"arborist/api"
	"arborist/deriv"
	"arborist/regex"
)

// mustTake tells if the calls do not agree about r and the text s of one code point or more.
func mustTake(t *testing.T, name string, r api.Re, s string, want bool) {
	t.Helper()
	if is, e := deriv.Match(r, s); is != want || e != api.OK {
		t.Errorf("%s: Match is %v, %d", name, is, e)
	}
	if end, found := deriv.Longest(r, s, 0); (found && end == len(s)) != want {
		t.Errorf("%s: Longest is %d, %v", name, end, found)
	}
	d := deriv.By(r, rune(s[0]))
	if is, e := deriv.Match(d, s[1:]); is != want || e != api.OK {
		t.Errorf("%s: Match of the derivative is %v, %d", name, is, e)
	}
	if deriv.Empty(r) != first(deriv.Match(r, "")) {
		t.Errorf("%s: Empty is %v", name, deriv.Empty(r))
	}
	if len(deriv.Parts(r)) == 0 {
		t.Errorf("%s: no classes", name)
	}
}

// Promise P601: expressions nested as deeply as the document bounds them are taken, on either side.
func TestP601Deep(t *testing.T) {
	const deep = 1<<16 - 2
	a, b := one('a'), one('b')
	nest := func(f func(i int, r api.Re) api.Re) api.Re {
		r := a
		for i := range deep {
			r = f(i, r)
		}
		return r
	}
	mustTake(t, "complements", nest(func(_ int, r api.Re) api.Re { return of(api.ReNot, r) }), "a", true)
	mustTake(t, "stars", nest(func(_ int, r api.Re) api.Re { return of(api.ReStar, r) }), "aaa", true)
	for _, kind := range []api.ReKind{api.ReAlt, api.ReAnd} {
		mustTake(t, "lists in right parts", nest(func(_ int, r api.Re) api.Re { return of(kind, a, r) }), "a", true)
		mustTake(t, "lists in left parts", nest(func(_ int, r api.Re) api.Re { return of(kind, r, a) }), "a", true)
	}
	// The letters of the text stand in the expression from the innermost one on, to its right or to its left.
	text := "a" + letters(deep)
	left := nest(func(i int, r api.Re) api.Re { return of(api.ReCat, r, one(rune(text[i+1]))) })
	back := []byte(text)
	slices.Reverse(back)
	right := nest(func(i int, r api.Re) api.Re { return of(api.ReCat, one(rune(text[i+1])), r) })
	mustTake(t, "concatenations in left parts", left, text, true)
	mustTake(t, "concatenations in left parts", left, text[:deep], false)
	mustTake(t, "concatenations in right parts", right, string(back), true)
	mustTake(t, "concatenations in right parts", right, string(back[:deep]), false)
	kinds := []api.ReKind{api.ReCat, api.ReAlt}
	mustTake(t, "kinds by turns in right parts", nest(func(i int, r api.Re) api.Re { return of(kinds[i%2], b, r) }), "bbbbb", true)
	mustTake(t, "kinds by turns in left parts", nest(func(i int, r api.Re) api.Re { return of(kinds[i%2], r, b) }), "bbbbb", true)
}

// Promise P601: lists of very many parts are taken.
func TestP601Wide(t *testing.T) {
	const many = 100000
	a, eps := one('a'), leaf(api.ReEps)
	repeat := func(kind api.ReKind, r api.Re) api.Re { return of(kind, slices.Repeat([]api.Re{r}, many)...) }
	word := regex.Lit("ab")
	mustTake(t, "a long word", repeat(api.ReCat, a), "aaa", false)
	mustTake(t, "many stars", repeat(api.ReCat, of(api.ReStar, word)), "abab", true)
	mustTake(t, "many optional words", repeat(api.ReCat, of(api.ReAlt, eps, word)), "abab", true)
	mustTake(t, "a union of words", repeat(api.ReAlt, word), "ab", true)
	mustTake(t, "an intersection of words", repeat(api.ReAnd, word), "ab", true)
	var sets, words []api.Re
	for i := range rune(many) {
		sets = append(sets, one(2*i))
		words = append(words, of(api.ReCat, one('a'), one(i), one('b')))
	}
	mustTake(t, "a union of sets", of(api.ReAlt, sets...), "b", true)
	mustTake(t, "a union of other words", of(api.ReAlt, words...), "axb", true)
	mustTake(t, "a concatenation of sets", of(api.ReCat, sets...), "\x00\x02\x04", false)
	if n := len(deriv.Parts(of(api.ReCat, sets...))); n != many+1 {
		t.Errorf("%d classes", n)
	}
}

// Promise P604: long texts are matched by expressions whose derivatives are very many, with only few of them kept at a time.
func TestP604ManyDerivatives(t *testing.T) {
	text := letters(api.MaxText)
	for _, n := range []int{5, 20, 64} {
		r := far(n)
		apart := of(api.ReAnd, far(n), of(api.ReNot, far(n+1)))
		for cut := range 5 {
			s := text[:len(text)-cut]
			mustAgree(t, "Match", r, nil, first(deriv.Match(r, s)), isFar(s, n))
			mustAgree(t, "Match", apart, nil, first(deriv.Match(apart, s)), isFar(s, n) && !isFar(s, n+1))
		}
	}
	const n = 300
	want := strings.LastIndexByte(text[:len(text)-n], 'a') + n + 1
	if end, found := deriv.Longest(far(n), text, 0); end != want || !found {
		t.Errorf("Longest is %d, %v, want %d", end, found, want)
	}
}

// Promise P604: expressions that can match a text in very many ways, and texts as long as they may be, take no more than moments.
func TestP604Ambiguous(t *testing.T) {
	a, b, eps := one('a'), one('b'), leaf(api.ReEps)
	star := func(r api.Re) api.Re { return of(api.ReStar, r) }
	maybe := of(api.ReAlt, eps, a)
	s := strings.Repeat("a", api.MaxText)
	for _, x := range []struct {
		name string
		r    api.Re
		want bool
	}{
		{"stars of stars", star(star(of(api.ReCat, star(a), star(a)))), true},
		{"stars, and b behind", of(api.ReCat, star(star(of(api.ReAlt, a, times(a, 2)))), b), false},
		{"optional parts ahead of as many parts", of(api.ReCat, times(maybe, 500), times(a, 500)), false},
		{"optional parts in a star", star(of(api.ReCat, times(maybe, 100), times(a, 100))), true},
		{"as many optional parts as letters", times(maybe, api.MaxText), true},
		{"too few optional parts", times(maybe, api.MaxText-1), false},
		{"many stars", times(star(of(api.ReAlt, a, times(a, 3))), 200), true},
		{"a star in a complement", of(api.ReNot, star(of(api.ReCat, star(times(a, 7)), b))), true},
		{"complements in a row", of(api.ReCat, of(api.ReNot, times(a, 5)), of(api.ReNot, b), of(api.ReNot, eps)), true},
		{"numbers that share no factor", of(api.ReAnd, star(times(a, 3)), star(times(a, 5)), star(times(a, 7))), api.MaxText%105 == 0},
		{"the text itself", regex.Lit(s), true},
		{"more than the text", regex.Lit(s + "a"), false},
		{"stars of words of many lengths", star(of(api.ReCat, cycles(2, 3, 5, 7, 11, 13), a)), true},
		{"stars of words of many lengths, and b behind", of(api.ReCat, star(of(api.ReCat, cycles(2, 3, 5, 7, 11, 13), a)), b), false},
		{"a number of letters", star(times(a, 256)), api.MaxText%256 == 0},
		{"another number of letters", star(times(a, 255)), api.MaxText%255 == 0},
	} {
		if is, e := deriv.Match(x.r, s); is != x.want || e != api.OK {
			t.Errorf("Match of %s is %v, %d", x.name, is, e)
		}
	}
}
