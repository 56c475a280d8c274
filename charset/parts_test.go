package charset_test

import (
	"slices"
	"testing"

	"arborist/api"
	"arborist/charset"
)

// classes is the second description of Parts: it groups the cuts by the list of sets that hold them.
func classes(l ...api.Set) []api.Set {
	c := cuts(l...)
	in := func(r rune) []int {
		var held []int
		for i, s := range l {
			if holds(s, r) {
				held = append(held, i)
			}
		}
		return held
	}
	var kinds [][]int
	for _, r := range c {
		held := in(r)
		if len(held) > 0 && !slices.ContainsFunc(kinds, func(k []int) bool { return slices.Equal(k, held) }) {
			kinds = append(kinds, held)
		}
	}
	kinds = append(kinds, nil)
	var parts []api.Set
	for _, k := range kinds {
		if s := setWhere(c, func(r rune) bool { return slices.Equal(in(r), k) }); len(s) > 0 {
			parts = append(parts, s)
		}
	}
	return parts
}

// mustPart tells if Parts answers other classes than the wanted ones.
func mustPart(t *testing.T, want []api.Set, l ...api.Set) {
	t.Helper()
	got := charset.Parts(l...)
	switch {
	case slices.EqualFunc(got, want, func(a, b api.Set) bool { return slices.Equal(a, b) }):
	case len(l) > 3:
		t.Errorf("Parts of %d sets are %d other classes than the %d wanted ones", len(l), len(got), len(want))
	default:
		t.Errorf("Parts of %v are %v, want %v", l, got, want)
	}
}

// lists are lists of up to three sets: all of three tame ones and all of two wild ones, one of which is from a smaller pool.
func lists() [][]api.Set {
	var l [][]api.Set
	for _, a := range tame() {
		for _, b := range tame() {
			for _, c := range tame() {
				l = append(l, []api.Set{a, b, c})
			}
		}
	}
	few := append(upTo(1, edges()), api.Set{{Lo: 3, Hi: 3}, {Lo: 0, Hi: 1}, {Lo: 4, Hi: 2}})
	for _, a := range wild() {
		l = append(l, []api.Set{a})
		for i := range few {
			// Each wild set meets a part of the others only, which part changing from one to the next.
			if (i+len(l))%4 == 0 {
				l = append(l, []api.Set{a, few[i]}, []api.Set{few[i], a})
			}
		}
	}
	return l
}

// Promise P304: the classes come in the order of their smallest code points, and that of the code points in no set comes last, even if it has the smallest one.
func TestP304Order(t *testing.T) {
	mustPart(t, []api.Set{{{Lo: 97, Hi: 98}}, {{Lo: 99, Hi: 99}}, {{Lo: 0, Hi: 96}, {Lo: 100, Hi: maxRune}}}, api.Set{{Lo: 97, Hi: 99}}, api.Set{{Lo: 99, Hi: 99}})
	mustPart(t, []api.Set{{{Lo: 97, Hi: 98}}, {{Lo: 99, Hi: 99}}, {{Lo: 0, Hi: 96}, {Lo: 100, Hi: maxRune}}}, api.Set{{Lo: 99, Hi: 99}}, api.Set{{Lo: 97, Hi: 99}})
	mustPart(t, []api.Set{{{Lo: 2, Hi: 3}, {Lo: 8, Hi: 9}}, {{Lo: 4, Hi: 7}}, {{Lo: 0, Hi: 1}, {Lo: 10, Hi: maxRune}}}, api.Set{{Lo: 2, Hi: 9}}, api.Set{{Lo: 4, Hi: 7}})
	mustPart(t, []api.Set{{{Lo: 5, Hi: 5}, {Lo: 9, Hi: 9}}, {{Lo: 7, Hi: 7}}, {{Lo: 0, Hi: 4}, {Lo: 6, Hi: 6}, {Lo: 8, Hi: 8}, {Lo: 10, Hi: maxRune}}}, api.Set{{Lo: 7, Hi: 7}}, api.Set{{Lo: 9, Hi: 9}, {Lo: 5, Hi: 5}})
}

// Promise P304: without sets, and with empty ones alone, the universe is the only class; there is no class of code points in no set if the sets hold all of them.
func TestP304Edges(t *testing.T) {
	all := api.Set{{Lo: 0, Hi: maxRune}}
	mustPart(t, []api.Set{all})
	mustPart(t, []api.Set{all}, []api.Set{}...)
	mustPart(t, []api.Set{all}, nil)
	mustPart(t, []api.Set{all}, nil, api.Set{}, api.Set{{Lo: 4, Hi: 3}})
	mustPart(t, []api.Set{all}, all)
	mustPart(t, []api.Set{all}, all, all, nil, all)
	mustPart(t, []api.Set{{{Lo: 0, Hi: 0}}, {{Lo: 1, Hi: maxRune}}}, api.Set{{Lo: 0, Hi: 0}}, api.Set{{Lo: 1, Hi: maxRune}})
	mustPart(t, []api.Set{{{Lo: maxRune, Hi: maxRune}}, {{Lo: 0, Hi: maxRune - 1}}}, api.Set{{Lo: maxRune, Hi: maxRune}})
	mustPart(t, []api.Set{{{Lo: 0, Hi: maxRune - 1}}, {{Lo: maxRune, Hi: maxRune}}}, api.Set{{Lo: 0, Hi: maxRune - 1}})
}

// Promise P304: sets that are not canonical count as those that Of makes of them.
func TestP304NotCanonical(t *testing.T) {
	mustPart(t, []api.Set{{{Lo: 1, Hi: 6}}, {{Lo: 0, Hi: 0}, {Lo: 7, Hi: maxRune}}}, api.Set{{Lo: 4, Hi: 6}, {Lo: 1, Hi: 3}, {Lo: 2, Hi: 5}}, api.Set{{Lo: 1, Hi: 2}, {Lo: 3, Hi: 6}, {Lo: 9, Hi: 8}})
	mustPart(t, []api.Set{{{Lo: 0, Hi: 2}}, {{Lo: 9, Hi: maxRune}}, {{Lo: 3, Hi: 8}}}, api.Set{{Lo: -7, Hi: 2}}, api.Set{{Lo: 9, Hi: maxRune + 5}})
}

// Promise P304: the classes are those of the second description.
func TestP304AllLists(t *testing.T) {
	for _, l := range lists() {
		mustPart(t, classes(l...), l...)
	}
}

// Promise P304: sets within sets, of which each code point is in up to thousands, are told apart all the same.
func TestP304ManySets(t *testing.T) {
	const n = 30000
	var nested, want []api.Set
	for i := range rune(n) {
		nested = append(nested, api.Set{{Lo: 1 + i, Hi: maxRune - 1 - i}})
		want = append(want, api.Set{{Lo: 1 + i, Hi: 1 + i}, {Lo: maxRune - 1 - i, Hi: maxRune - 1 - i}})
	}
	want[n-1] = api.Set{{Lo: n, Hi: maxRune - n}}
	want = append(want, api.Set{{Lo: 0, Hi: 0}, {Lo: maxRune, Hi: maxRune}})
	mustPart(t, want, nested...)
	slices.Reverse(nested)
	mustPart(t, want, nested...)
}

// Promise P304: many sets of many ranges each, of which the classes are known: a code point's class hangs on its remainders.
func TestP304Remainders(t *testing.T) {
	const count, last = 7, 20000
	var l []api.Set
	for bit := range count {
		var s api.Set
		for r := range rune(last) {
			if r>>bit&1 == 1 {
				s = append(s, api.Range{Lo: r, Hi: r})
			}
		}
		l = append(l, s)
	}
	var want []api.Set
	for k := rune(1); k <= 1<<count; k++ {
		var s api.Set
		for r := k % (1 << count); r < last; r += 1 << count {
			s = append(s, api.Range{Lo: r, Hi: r})
		}
		want = append(want, s)
	}
	want[len(want)-1] = append(want[len(want)-1], api.Range{Lo: last, Hi: maxRune})
	for _, s := range want {
		if !isCanonical(s) {
			t.Fatal("the wanted classes are not canonical")
		}
	}
	mustPart(t, want, l...)
}

// count returns the number of classes that hold r.
func count(parts []api.Set, r rune) int {
	n := 0
	for _, s := range parts {
		if holds(s, r) {
			n++
		}
	}
	return n
}

// Promise P306: every code point is in exactly one class, and no class is empty.
func TestP306Partition(t *testing.T) {
	for _, l := range lists() {
		parts := charset.Parts(l...)
		size := 0
		for _, s := range parts {
			if len(s) == 0 {
				t.Errorf("Parts of %v have an empty class", l)
			}
			for _, r := range s {
				size += int(r.Hi) - int(r.Lo) + 1
			}
		}
		if size != api.MaxRune+1 {
			t.Errorf("Parts of %v hold %d code points", l, size)
		}
		for _, r := range append(cuts(l...), maxRune) {
			if n := count(parts, r); n != 1 {
				t.Errorf("%d is in %d of the parts of %v", r, n, l)
			}
		}
	}
}

// Promise P306: every set is a union of classes.
func TestP306Unions(t *testing.T) {
	for _, l := range lists() {
		parts := charset.Parts(l...)
		for _, s := range l {
			var within []api.Range
			for _, p := range parts {
				if len(p) > 0 && holds(s, p[0].Lo) {
					within = append(within, p...)
				}
			}
			is := func(r rune) bool { return holds(s, r) }
			mustBe(t, setWhere(cuts(within), func(r rune) bool { return holds(within, r) }), setWhere(cuts(s), is), "the union of classes within", s)
		}
	}
}
