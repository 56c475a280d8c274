package regex_test

import (
	"math"
	"slices"
	"strings"
	"testing"

	"arborist/api"
	"arborist/charset"
	"arborist/regex"
)

// flat is the list l with each expression of the given kind replaced by its Kids until there is none.
func flat(kind api.ReKind, l []api.Re) []api.Re {
	for {
		i := slices.IndexFunc(l, func(r api.Re) bool { return r.Kind == kind })
		if i < 0 {
			return l
		}
		l = slices.Concat(l[:i], l[i].Kids, l[i+1:])
	}
}

// without are the expressions of l that are not equal to x, and whether one is.
func without(l []api.Re, x api.Re) ([]api.Re, bool) {
	var rest []api.Re
	for _, r := range l {
		if !equal(r, x) {
			rest = append(rest, r)
		}
	}
	return rest, len(rest) < len(l)
}

// folded is the expression of the given kind with the parts l, or neutral if there are none.
func folded(kind api.ReKind, l []api.Re, neutral api.Re) api.Re {
	switch len(l) {
	case 0:
		return neutral
	case 1:
		return l[0]
	}
	return of(kind, l...)
}

// ordered is l without its sets, with the set s instead, in ascending order and without duplicates.
func ordered(l []api.Re, s []api.Re) []api.Re {
	byKey := map[string]api.Re{}
	var keys [][]int
	for _, r := range append(s, l...) {
		if r.Kind == api.ReSet && len(s) > 0 && !equal(r, s[0]) {
			continue
		}
		k := key(r)
		if _, known := byKey[name(k)]; !known {
			keys = append(keys, k)
		}
		byKey[name(k)] = r
	}
	slices.SortFunc(keys, slices.Compare[[]int])
	var sorted []api.Re
	for _, k := range keys {
		sorted = append(sorted, byKey[name(k)])
	}
	return sorted
}

// name is a text for a key.
func name(k []int) string {
	var b strings.Builder
	for _, n := range k {
		b.WriteRune(rune(n))
	}
	return b.String()
}

// mergedSet is the set that merge makes of the sets among l, one after another, as a list of one, or nothing if there are none.
func mergedSet(l []api.Re, merge func(a, b api.Set) api.Set) []api.Re {
	var merged []api.Re
	for _, r := range l {
		switch {
		case r.Kind != api.ReSet:
		case len(merged) == 0:
			merged = []api.Re{r}
		default:
			merged = []api.Re{{Kind: api.ReSet, Set: merge(merged[0].Set, r.Set)}}
		}
	}
	return merged
}

// wantCat is the second description of Cat.
func wantCat(l ...api.Re) api.Re {
	l, _ = without(flat(api.ReCat, l), leaf(api.ReEps))
	if _, has := without(l, leaf(api.ReNone)); has {
		return leaf(api.ReNone)
	}
	return folded(api.ReCat, l, leaf(api.ReEps))
}

// wantAlt is the second description of Alt.
func wantAlt(l ...api.Re) api.Re {
	l, _ = without(flat(api.ReAlt, l), leaf(api.ReNone))
	if _, has := without(l, all()); has {
		return all()
	}
	union := mergedSet(l, func(a, b api.Set) api.Set { return charset.Union(a, b) })
	return folded(api.ReAlt, ordered(l, union), leaf(api.ReNone))
}

// wantAnd is the second description of And.
func wantAnd(l ...api.Re) api.Re {
	l, _ = without(flat(api.ReAnd, l), all())
	shared := mergedSet(l, charset.Inter)
	if _, has := without(l, leaf(api.ReNone)); has || len(shared) > 0 && len(shared[0].Set) == 0 {
		return leaf(api.ReNone)
	}
	return folded(api.ReAnd, ordered(l, shared), all())
}

// mustJoin holds Cat, Alt and And of l against their second descriptions.
func mustJoin(t *testing.T, l ...api.Re) {
	t.Helper()
	mustBe(t, regex.Cat(l...), wantCat(l...), "Cat", l...)
	mustBe(t, regex.Alt(l...), wantAlt(l...), "Alt", l...)
	mustBe(t, regex.And(l...), wantAnd(l...), "And", l...)
}

// Promise P403: Cat, Alt and And are what their descriptions say for all lists of up to three expressions from a pool.
func TestP403AllLists(t *testing.T) {
	mustJoin(t)
	for _, a := range tame() {
		mustJoin(t, a)
		for _, b := range tame() {
			mustJoin(t, a, b)
		}
	}
	for _, a := range few() {
		for _, b := range few() {
			for _, c := range few() {
				mustJoin(t, a, b, c)
			}
		}
	}
	mustJoin(t, tame()...)
	mustJoin(t, few()...)
}

// Promise P403: OfSet answers the set, or ReNone if that is empty or not valid.
func TestP403OfSet(t *testing.T) {
	for _, bounds := range [][]rune{{'a', 'a'}, {'a', 'b', 'd', 'z'}, {0, maxRune}, {0, 0, 2, 2, maxRune, maxRune}} {
		mustBe(t, regex.OfSet(set(bounds...).Set), set(bounds...), "OfSet")
	}
	for _, bounds := range [][]rune{{}, {'b', 'a'}, {-1, 'a'}, {'a', maxRune + 1}, {'a', 'b', 'c', 'd'}, {'a', 'b', 'b', 'd'}, {'c', 'd', 'a', 'a'}, {'a', 'a', 'z', 'y'}, {math.MinInt32, math.MaxInt32}} {
		mustBe(t, regex.OfSet(set(bounds...).Set), leaf(api.ReNone), "OfSet", set(bounds...))
	}
}

// Promise P403: Lit has a set for each rune of the text; a byte that is not valid UTF-8 is the rune 65533.
func TestP403Lit(t *testing.T) {
	one := func(r rune) api.Re { return set(r, r) }
	for s, want := range map[string]api.Re{
		"":              leaf(api.ReEps),
		"a":             one('a'),
		"\x00":          one(0),
		"\u00e9":        one(0xe9),
		"\U0010ffff":    one(maxRune),
		"\xff":          one(65533),
		"\ufffd":        one(65533),
		"ab":            of(api.ReCat, one('a'), one('b')),
		"aa":            of(api.ReCat, one('a'), one('a')),
		"\u20ac\x80\n*": of(api.ReCat, one(0x20ac), one(65533), one('\n'), one('*')),
		"\xe2\x82":      of(api.ReCat, one(65533), one(65533)),
		"\xed\xa0\x80":  of(api.ReCat, one(65533), one(65533), one(65533)),
	} {
		if got := regex.Lit(s); !equal(got, want) {
			t.Errorf("Lit(%q) = %v, want %v", s, got, want)
		}
	}
	long := regex.Lit(strings.Repeat("ab", api.MaxText))
	if long.Kind != api.ReCat || len(long.Kids) != 2*api.MaxText || !equal(long.Kids[2*api.MaxText-1], one('b')) {
		t.Error("Lit of a long text")
	}
}

// Promise P403: Cat flattens, drops ReEps and answers ReNone if that is among its parts, which keep their order.
func TestP403Cat(t *testing.T) {
	a, b, c, none, eps := set('a', 'a'), set('b', 'b'), set('c', 'c'), leaf(api.ReNone), leaf(api.ReEps)
	for _, x := range []struct {
		l    []api.Re
		want api.Re
	}{
		{nil, eps},
		{[]api.Re{eps}, eps},
		{[]api.Re{eps, eps}, eps},
		{[]api.Re{none}, none},
		{[]api.Re{eps, none}, none},
		{[]api.Re{a, none, b}, none},
		{[]api.Re{a}, a},
		{[]api.Re{eps, a, eps}, a},
		{[]api.Re{b, a}, of(api.ReCat, b, a)},
		{[]api.Re{a, a}, of(api.ReCat, a, a)},
		{[]api.Re{of(api.ReCat, c, b), a}, of(api.ReCat, c, b, a)},
		{[]api.Re{a, of(api.ReCat, of(api.ReCat, b, of(api.ReCat, eps, c)), a), b}, of(api.ReCat, a, b, c, a, b)},
		{[]api.Re{a, of(api.ReCat, b, of(api.ReCat, eps, none))}, none},
		{[]api.Re{of(api.ReCat, eps, eps)}, eps},
		{[]api.Re{of(api.ReCat, eps, of(api.ReCat, eps, a))}, a},
		{[]api.Re{of(api.ReStar, of(api.ReCat, eps, a)), b}, of(api.ReCat, of(api.ReStar, of(api.ReCat, eps, a)), b)},
		{[]api.Re{of(api.ReAlt, none, eps), b}, of(api.ReCat, of(api.ReAlt, none, eps), b)},
		{[]api.Re{all(), all()}, of(api.ReCat, all(), all())},
	} {
		mustBe(t, regex.Cat(x.l...), x.want, "Cat", x.l...)
	}
}

// Promise P403: Alt flattens, drops ReNone, answers All if that is among its parts, unites sets, sorts and drops duplicates.
func TestP403Alt(t *testing.T) {
	a, b, c, none, eps := set('a', 'a'), set('b', 'b'), set('c', 'c'), leaf(api.ReNone), leaf(api.ReEps)
	ca, not, star := of(api.ReCat, c, a), of(api.ReNot, a), of(api.ReStar, a)
	for _, x := range []struct {
		l    []api.Re
		want api.Re
	}{
		{nil, none},
		{[]api.Re{none, none}, none},
		{[]api.Re{eps}, eps},
		{[]api.Re{none, eps, eps}, eps},
		{[]api.Re{b, eps, a}, of(api.ReAlt, eps, set('a', 'b'))},
		{[]api.Re{a, c}, set('a', 'a', 'c', 'c')},
		{[]api.Re{a, c, b}, set('a', 'c')},
		{[]api.Re{set(0, 'a'), set('b', maxRune)}, set(0, maxRune)},
		{[]api.Re{star, not, all(), a}, all()},
		{[]api.Re{a, of(api.ReAlt, b, of(api.ReAlt, all(), c))}, all()},
		{[]api.Re{star, not, of(api.ReAnd, star, ca), ca, a, eps}, of(api.ReAlt, eps, a, ca, of(api.ReAnd, star, ca), not, star)},
		{[]api.Re{ca, of(api.ReAlt, c, of(api.ReAlt, ca, none)), ca, b}, of(api.ReAlt, set('b', 'c'), ca)},
		{[]api.Re{of(api.ReCat, a, a, a), of(api.ReCat, a, a), of(api.ReCat, a, b), ca}, of(api.ReAlt, of(api.ReCat, a, a), of(api.ReCat, a, a, a), of(api.ReCat, a, b), ca)},
		{[]api.Re{of(api.ReStar, set('b', 'c')), of(api.ReStar, set('a', 'd')), of(api.ReStar, set('b', 'b', 'd', 'd')), of(api.ReStar, b)},
			of(api.ReAlt, of(api.ReStar, set('a', 'd')), of(api.ReStar, b), of(api.ReStar, set('b', 'b', 'd', 'd')), of(api.ReStar, set('b', 'c')))},
		{[]api.Re{of(api.ReAlt, eps, none)}, eps},
	} {
		mustBe(t, regex.Alt(x.l...), x.want, "Alt", x.l...)
	}
}

// Promise P403: And flattens, drops All, meets sets, answers ReNone if that is among its parts or the sets share nothing, sorts and drops duplicates.
func TestP403And(t *testing.T) {
	a, b, none, eps := set('a', 'a'), set('b', 'b'), leaf(api.ReNone), leaf(api.ReEps)
	ab, not, star := of(api.ReCat, a, b), of(api.ReNot, a), of(api.ReStar, a)
	for _, x := range []struct {
		l    []api.Re
		want api.Re
	}{
		{nil, all()},
		{[]api.Re{all()}, all()},
		{[]api.Re{all(), all()}, all()},
		{[]api.Re{a, b}, none},
		{[]api.Re{not, a, star, b}, none},
		{[]api.Re{none}, none},
		{[]api.Re{star, none, all()}, none},
		{[]api.Re{star, of(api.ReAnd, eps, of(api.ReAnd, none, a))}, none},
		{[]api.Re{all(), star, all()}, star},
		{[]api.Re{set('a', 'm'), set('f', 'z'), set('a', 'g', 'k', 'z')}, set('f', 'g', 'k', 'm')},
		{[]api.Re{set('a', 'm'), set(0, maxRune)}, set('a', 'm')},
		{[]api.Re{set(0, maxRune)}, set(0, maxRune)},
		{[]api.Re{star, set('a', 'c'), not, set('b', 'd')}, of(api.ReAnd, set('b', 'c'), not, star)},
		{[]api.Re{star, eps, ab, star, of(api.ReAnd, eps, of(api.ReAlt, a, eps))}, of(api.ReAnd, eps, ab, of(api.ReAlt, a, eps), star)},
		{[]api.Re{of(api.ReAnd, star, all())}, star},
		{[]api.Re{eps, a}, of(api.ReAnd, eps, a)},
	} {
		mustBe(t, regex.And(x.l...), x.want, "And", x.l...)
	}
}

// Promise P403: Not undoes a ReNot, and Star leaves a ReStar as it is.
func TestP403NotAndStar(t *testing.T) {
	for _, r := range tame() {
		not, star := of(api.ReNot, r), of(api.ReStar, r)
		switch r.Kind {
		case api.ReNot:
			not = r.Kids[0]
		case api.ReNone, api.ReEps:
			star = leaf(api.ReEps)
		case api.ReStar:
			star = r
		}
		mustBe(t, regex.Not(r), not, "Not", r)
		mustBe(t, regex.Star(r), star, "Star", r)
		mustBe(t, regex.Not(of(api.ReNot, r)), r, "Not", of(api.ReNot, r))
	}
	mustBe(t, regex.Not(leaf(api.ReNone)), all(), "Not")
	mustBe(t, regex.Star(all()), of(api.ReStar, all()), "Star")
	mustBe(t, regex.Star(of(api.ReStar, leaf(api.ReEps))), of(api.ReStar, leaf(api.ReEps)), "Star")
}

// Promise P403: results may have more nodes than MaxRe and be deeper than MaxDeep.
func TestP403BeyondLimits(t *testing.T) {
	deep, large := chain(api.ReStar, api.MaxDeep-1, set('a', 'a')), wide(api.ReCat, api.MaxRe-1)
	for _, c := range []struct {
		got, want api.Re
		e         api.Errno
	}{
		{regex.Not(deep), of(api.ReNot, deep), api.ErrDeep},
		{regex.Star(of(api.ReNot, deep)), of(api.ReStar, of(api.ReNot, deep)), api.ErrDeep},
		{regex.Cat(deep, deep), of(api.ReCat, deep, deep), api.ErrDeep},
		{regex.Alt(leaf(api.ReEps), deep), of(api.ReAlt, leaf(api.ReEps), deep), api.ErrDeep},
		{regex.And(leaf(api.ReEps), deep), of(api.ReAnd, leaf(api.ReEps), deep), api.ErrDeep},
		{regex.Cat(large, set('x', 'x')), of(api.ReCat, append(slices.Clone(large.Kids), set('x', 'x'))...), api.ErrLong},
		{regex.Alt(large, leaf(api.ReEps)), of(api.ReAlt, leaf(api.ReEps), large), api.ErrLong},
		{regex.And(large, leaf(api.ReEps)), of(api.ReAnd, leaf(api.ReEps), large), api.ErrLong},
		{regex.Not(large), of(api.ReNot, large), api.ErrLong},
		{regex.Star(large), of(api.ReStar, large), api.ErrLong},
	} {
		if !equal(c.got, c.want) || regex.Right(c.got) != c.e {
			t.Errorf("a result of %d nodes and depth %d has the error %d", size(c.got), depth(c.got), regex.Right(c.got))
		}
	}
	if e := regex.Right(regex.Lit(strings.Repeat("a", api.MaxRe))); e != api.ErrLong {
		t.Errorf("Lit of %d runes has the error %d", api.MaxRe, e)
	}
}
