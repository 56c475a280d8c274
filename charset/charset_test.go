package charset_test

import (
	"math"
	"slices"
	"testing"

	"arborist/api"
	"arborist/charset"
)

// maxRune is the last code point as a rune.
const maxRune rune = api.MaxRune

// holds is the second description of a set: whether the code point r is in one of the ranges.
func holds(l []api.Range, r rune) bool {
	for _, q := range l {
		if q.Lo <= r && r <= q.Hi {
			return r >= 0 && r <= maxRune
		}
	}
	return false
}

// isCanonical is the second description of Right, in numbers that cannot overflow.
func isCanonical(s api.Set) bool {
	free := -1
	for _, r := range s {
		lo, hi := int(r.Lo), int(r.Hi)
		if lo <= free || lo < 0 || lo > hi || hi > api.MaxRune {
			return false
		}
		free = hi + 1
	}
	return true
}

// cuts are the code points, ascending, where one of the sets may begin or end, and 0.
func cuts(l ...api.Set) []rune {
	c := []rune{0}
	for _, s := range l {
		for _, r := range s {
			if r.Lo > 0 && r.Lo <= maxRune {
				c = append(c, r.Lo)
			}
			if r.Hi >= 0 && r.Hi < maxRune {
				c = append(c, r.Hi+1)
			}
		}
	}
	slices.Sort(c)
	return slices.Compact(c)
}

// setWhere is the canonical set of the code points for which is holds, provided that is changes at the cuts only.
func setWhere(c []rune, is func(r rune) bool) api.Set {
	var s api.Set
	for i, lo := range c {
		hi := maxRune
		if i+1 < len(c) {
			hi = c[i+1] - 1
		}
		switch last := len(s) - 1; {
		case !is(lo):
		case last >= 0 && s[last].Hi+1 == lo:
			s[last].Hi = hi
		default:
			s = append(s, api.Range{Lo: lo, Hi: hi})
		}
	}
	return s
}

// ranges are all ranges between two of the given ends, the empty ones among them.
func ranges(ends ...rune) []api.Range {
	var l []api.Range
	for _, lo := range ends {
		for _, hi := range ends {
			l = append(l, api.Range{Lo: lo, Hi: hi})
		}
	}
	return l
}

// upTo are all lists of at most n of the ranges.
func upTo(n int, pool []api.Range) []api.Set {
	l := []api.Set{nil}
	for from := 0; n > 0; n-- {
		last := l[from:]
		from = len(l)
		for _, s := range last {
			for _, r := range pool {
				l = append(l, append(slices.Clone(s), r))
			}
		}
	}
	return l
}

// edges are ranges with ends around both ends of the universe and at both ends of what a rune can hold.
func edges() []api.Range {
	return ranges(math.MinInt32, -1, 0, 1, maxRune-1, maxRune, maxRune+1, math.MaxInt32)
}

// wild are sets, most of them not canonical: all of at most two ranges at the edges, and all of at most two short ones.
func wild() []api.Set {
	return slices.Concat(upTo(2, edges()), upTo(2, ranges(0, 1, 2, 3, 4)), []api.Set{{}})
}

// tame are canonical sets: all sets of the code points 0 to 3, and the complements of some of them.
func tame() []api.Set {
	var l []api.Set
	for bits := range 16 {
		s := setWhere([]rune{0, 1, 2, 3, 4}, func(r rune) bool { return bits>>r&1 == 1 })
		l = append(l, s)
		if bits%3 == 0 {
			l = append(l, setWhere([]rune{0, 1, 2, 3, 4}, func(r rune) bool { return bits>>r&1 == 0 }))
		}
	}
	return l
}

// mustBe tells if a set that a call answered is not the wanted one.
func mustBe(t *testing.T, got, want api.Set, call string, arguments ...api.Set) {
	t.Helper()
	if !slices.Equal(got, want) {
		t.Errorf("%s of %v is %v, want %v", call, arguments, got, want)
	}
}

// Promise P301: no argument makes a call panic, and every set that is answered is canonical.
func TestP301AllArguments(t *testing.T) {
	sets := upTo(1, edges())
	sets = append(sets, api.Set{}, api.Set{{Lo: 5, Hi: 4}, {Lo: math.MaxInt32, Hi: math.MinInt32}}, api.Set{{Lo: 9, Hi: 12}, {Lo: 3, Hi: 9}, {Lo: 13, Hi: 20}})
	for _, a := range sets {
		for _, b := range sets {
			got := []api.Set{charset.Of(append(slices.Clone(a), b...)...), charset.Union(a, b), charset.Inter(a, b), charset.Minus(a, b), charset.Not(a)}
			for _, s := range append(got, charset.Parts(a, b)...) {
				if !isCanonical(s) {
					t.Errorf("%v, answered for %v and %v, is not canonical", s, a, b)
				}
			}
		}
		for _, r := range []rune{math.MinInt32, -1, 0, maxRune, maxRune + 1, math.MaxInt32} {
			if charset.Has(a, r) != holds(a, r) {
				t.Errorf("Has(%v, %d)", a, r)
			}
		}
	}
}

// Promise P301: nil and empty sets and lists are equivalent.
func TestP301Empty(t *testing.T) {
	s := api.Set{{Lo: 3, Hi: 7}}
	for _, no := range []api.Set{nil, {}, {{Lo: 2, Hi: 1}}} {
		for _, got := range []api.Set{charset.Of(no...), charset.Union(no), charset.Union(no, no), charset.Inter(no, s), charset.Inter(s, no), charset.Minus(no, s), charset.Inter(no, no)} {
			mustBe(t, got, nil, "a call", no)
		}
		mustBe(t, charset.Minus(s, no), s, "Minus", s, no)
		mustBe(t, charset.Union(no, s, no), s, "Union", no, s, no)
		mustBe(t, charset.Not(no), api.Set{{Lo: 0, Hi: maxRune}}, "Not", no)
		if charset.Has(no, 1) || charset.Size(no) != 0 {
			t.Errorf("%v has code points", no)
		}
	}
	if charset.Right(nil) != charset.Right(api.Set{}) {
		t.Error("Right tells nil and empty sets apart")
	}
	mustBe(t, charset.Union(), nil, "Union")
	mustBe(t, charset.Union([]api.Set{}...), nil, "Union")
}

// answers are the sets that the calls answer for a and b.
func answers(a, b api.Set) []api.Set {
	l := []api.Set{charset.Of(a...), charset.Union(a), charset.Union(a, b), charset.Inter(a, a), charset.Inter(a, b), charset.Minus(a, nil), charset.Minus(a, b), charset.Not(a)}
	return append(l, charset.Parts(a, b)...)
}

// scribble overwrites what a set holds, and what lies behind it up to its capacity.
func scribble(s api.Set) {
	s = s[:cap(s)]
	for i := range s {
		s[i] = api.Range{Lo: 77, Hi: 66}
	}
}

// Promise P301: the arguments stay as they are, behind their length too, and no answer shares memory with them or with another answer.
func TestP301Pure(t *testing.T) {
	memory := api.Set{{Lo: 40, Hi: 50}, {Lo: 10, Hi: 20}, {Lo: 15, Hi: 30}, {Lo: 31, Hi: 31}, {Lo: 60, Hi: 70}, {Lo: 1, Hi: 2}}
	for _, part := range [][2]int{{0, 3}, {1, 2}, {3, 5}, {0, 0}} {
		kept := slices.Clone(memory)
		a, b := memory[part[0]:part[1]], api.Set{{Lo: 12, Hi: 45}}
		first, second := answers(a, b), answers(a, b)
		want := make([]api.Set, len(first))
		for i, s := range first {
			want[i] = slices.Clone(s)
		}
		for i := range second {
			scribble(second[i])
			for j := range first {
				mustBe(t, first[j], want[j], "an earlier call", a, b)
			}
			for j := range second[i+1:] {
				mustBe(t, second[i+1+j], want[i+1+j], "another answer", a, b)
			}
		}
		mustBe(t, memory, kept, "the arguments' memory", a, b)
		mustBe(t, b, api.Set{{Lo: 12, Hi: 45}}, "the second argument", a, b)
		charset.Right(a)
		charset.Has(a, 16)
		charset.Size(a)
		mustBe(t, memory, kept, "the arguments' memory", a)
	}
}

// Promise P302: Of sorts ranges, drops empty ones and what lies outside of the universe, and joins those that meet.
func TestP302Of(t *testing.T) {
	for _, c := range []struct{ l, want api.Set }{
		{api.Set{{Lo: 97, Hi: 99}, {Lo: 98, Hi: 101}}, api.Set{{Lo: 97, Hi: 101}}},
		{api.Set{{Lo: 97, Hi: 99}, {Lo: 100, Hi: 101}}, api.Set{{Lo: 97, Hi: 101}}},
		{api.Set{{Lo: 97, Hi: 99}, {Lo: 101, Hi: 101}}, api.Set{{Lo: 97, Hi: 99}, {Lo: 101, Hi: 101}}},
		{api.Set{{Lo: 101, Hi: 101}, {Lo: 97, Hi: 99}}, api.Set{{Lo: 97, Hi: 99}, {Lo: 101, Hi: 101}}},
		{api.Set{{Lo: 5, Hi: 50}, {Lo: 7, Hi: 9}, {Lo: 51, Hi: 51}}, api.Set{{Lo: 5, Hi: 51}}},
		{api.Set{{Lo: 5, Hi: 4}}, nil},
		{api.Set{{Lo: -9, Hi: -1}}, nil},
		{api.Set{{Lo: -9, Hi: 0}}, api.Set{{Lo: 0, Hi: 0}}},
		{api.Set{{Lo: maxRune, Hi: math.MaxInt32}}, api.Set{{Lo: maxRune, Hi: maxRune}}},
		{api.Set{{Lo: maxRune + 1, Hi: math.MaxInt32}}, nil},
		{api.Set{{Lo: math.MinInt32, Hi: math.MaxInt32}, {Lo: 3, Hi: 3}}, api.Set{{Lo: 0, Hi: maxRune}}},
	} {
		mustBe(t, charset.Of(c.l...), c.want, "Of", c.l)
	}
}

// Promise P302: Of, Right, Has and Size are what their descriptions say, for all sets of up to two ranges, and up to three short ones.
func TestP302AllSets(t *testing.T) {
	for _, s := range append(wild(), upTo(3, ranges(0, 1, 2, 3))...) {
		c := cuts(s)
		want := setWhere(c, func(r rune) bool { return holds(s, r) })
		mustBe(t, charset.Of(s...), want, "Of", s)
		if charset.Right(s) != isCanonical(s) {
			t.Errorf("Right(%v) = %v", s, !isCanonical(s))
		}
		size := 0
		for _, r := range want {
			size += int(r.Hi) - int(r.Lo) + 1
		}
		if got := charset.Size(s); got != size {
			t.Errorf("Size(%v) = %d, want %d", s, got, size)
		}
		for _, r := range append(c, 1, 5, math.MinInt32, -1, maxRune-2, maxRune-1, maxRune, maxRune+1, math.MaxInt32) {
			if charset.Has(s, r) != holds(s, r) {
				t.Errorf("Has(%v, %d) = %v", s, r, !holds(s, r))
			}
		}
	}
}

// Promise P302: Right asks for ranges in the universe that are not empty, ascend and leave a code point between neighbours.
func TestP302Right(t *testing.T) {
	for _, s := range []api.Set{nil, {}, {{Lo: 0, Hi: maxRune}}, {{Lo: 0, Hi: 0}, {Lo: 2, Hi: 2}, {Lo: maxRune, Hi: maxRune}}} {
		if !charset.Right(s) {
			t.Errorf("%v is canonical", s)
		}
	}
	for _, s := range []api.Set{
		{{Lo: 2, Hi: 1}},
		{{Lo: -1, Hi: 1}},
		{{Lo: 1, Hi: maxRune + 1}},
		{{Lo: 1, Hi: math.MaxInt32}, {Lo: 3, Hi: 4}},
		{{Lo: 1, Hi: 2}, {Lo: 3, Hi: 4}},
		{{Lo: 1, Hi: 2}, {Lo: 2, Hi: 4}},
		{{Lo: 5, Hi: 6}, {Lo: 1, Hi: 2}},
		{{Lo: 1, Hi: 2}, {Lo: 1, Hi: 2}},
		{{Lo: 1, Hi: 2}, {Lo: 4, Hi: 6}, {Lo: 7, Hi: 7}},
	} {
		if charset.Right(s) {
			t.Errorf("%v is not canonical", s)
		}
	}
}

// Promise P302: Size counts each code point once, up to the whole universe.
func TestP302Size(t *testing.T) {
	for _, c := range []struct {
		s    api.Set
		want int
	}{
		{nil, 0},
		{api.Set{{Lo: 7, Hi: 7}}, 1},
		{api.Set{{Lo: 7, Hi: 9}, {Lo: 8, Hi: 12}, {Lo: 7, Hi: 7}, {Lo: 20, Hi: 19}}, 6},
		{api.Set{{Lo: math.MinInt32, Hi: 4}, {Lo: maxRune - 1, Hi: math.MaxInt32}}, 7},
		{api.Set{{Lo: 0, Hi: maxRune}}, api.MaxRune + 1},
	} {
		if got := charset.Size(c.s); got != c.want {
			t.Errorf("Size(%v) = %d, want %d", c.s, got, c.want)
		}
	}
}

// Promise P303: Union, Inter and Minus join, meet and take away sets, and Not turns them round.
func TestP303Ordinary(t *testing.T) {
	a, b := api.Set{{Lo: 10, Hi: 20}, {Lo: 30, Hi: 40}}, api.Set{{Lo: 15, Hi: 32}, {Lo: 38, Hi: 39}, {Lo: 50, Hi: 60}}
	mustBe(t, charset.Union(a, b), api.Set{{Lo: 10, Hi: 40}, {Lo: 50, Hi: 60}}, "Union", a, b)
	mustBe(t, charset.Inter(a, b), api.Set{{Lo: 15, Hi: 20}, {Lo: 30, Hi: 32}, {Lo: 38, Hi: 39}}, "Inter", a, b)
	mustBe(t, charset.Minus(a, b), api.Set{{Lo: 10, Hi: 14}, {Lo: 33, Hi: 37}, {Lo: 40, Hi: 40}}, "Minus", a, b)
	mustBe(t, charset.Minus(b, a), api.Set{{Lo: 21, Hi: 29}, {Lo: 50, Hi: 60}}, "Minus", b, a)
	mustBe(t, charset.Not(a), api.Set{{Lo: 0, Hi: 9}, {Lo: 21, Hi: 29}, {Lo: 41, Hi: maxRune}}, "Not", a)
	mustBe(t, charset.Not(api.Set{{Lo: 0, Hi: 5}, {Lo: 7, Hi: maxRune}}), api.Set{{Lo: 6, Hi: 6}}, "Not")
	mustBe(t, charset.Not(api.Set{{Lo: 0, Hi: maxRune}}), nil, "Not")
	mustBe(t, charset.Union(), nil, "Union")
}

// Promise P303: the four calls answer what their descriptions say for all pairs of sets from two pools, most of which are not canonical.
func TestP303AllPairs(t *testing.T) {
	others := append(tame(), upTo(1, edges())...)
	others = append(others, api.Set{{Lo: 3, Hi: 1}, {Lo: 2, Hi: 9}, {Lo: -4, Hi: 0}}, api.Set{{Lo: 2, Hi: 3}, {Lo: 1, Hi: 2}})
	for _, a := range wild() {
		mustBe(t, charset.Not(a), setWhere(cuts(a), func(r rune) bool { return !holds(a, r) }), "Not", a)
		for _, b := range others {
			c := cuts(a, b)
			where := func(is func(a, b bool) bool) api.Set {
				return setWhere(c, func(r rune) bool { return is(holds(a, r), holds(b, r)) })
			}
			mustBe(t, charset.Union(a, b), where(func(a, b bool) bool { return a || b }), "Union", a, b)
			mustBe(t, charset.Inter(a, b), where(func(a, b bool) bool { return a && b }), "Inter", a, b)
			mustBe(t, charset.Minus(a, b), where(func(a, b bool) bool { return a && !b }), "Minus", a, b)
			mustBe(t, charset.Minus(b, a), where(func(a, b bool) bool { return b && !a }), "Minus", b, a)
		}
	}
}

// Promise P303: Union takes any number of sets.
func TestP303UnionOfMany(t *testing.T) {
	var l []api.Set
	for i := range rune(1000) {
		l = append(l, api.Set{{Lo: 3 * (999 - i), Hi: 3*(999-i) + i%3}})
	}
	want := setWhere(cuts(l...), func(r rune) bool { return holds(slices.Concat(l...), r) })
	mustBe(t, charset.Union(l...), want, "Union", l...)
	for _, s := range tame() {
		mustBe(t, charset.Union(s), s, "Union", s)
		mustBe(t, charset.Union(s, s, s), s, "Union", s, s, s)
	}
}

// membership tells which of the code points 0 to 5 are in s, as a number.
func membership(s api.Set) int {
	n := 0
	for r := range rune(6) {
		if holds(s, r) {
			n |= 1 << r
		}
	}
	return n
}

// Promise P305: canonical sets with the same code points are equal, so that each set of code points has one form, which Of answers for all lists of it.
func TestP305CanonicalForm(t *testing.T) {
	form := map[int]api.Set{}
	for _, s := range upTo(3, ranges(0, 1, 2, 3, 4, 5)) {
		of := charset.Of(s...)
		if !charset.Right(of) {
			t.Errorf("Of(%v) = %v is not canonical", s, of)
		}
		if charset.Right(s) {
			mustBe(t, of, s, "Of", s)
		}
		first, known := form[membership(s)]
		if !known {
			form[membership(s)] = of
			continue
		}
		mustBe(t, of, first, "Of", s)
	}
	if len(form) != 64 {
		t.Errorf("%d sets of six code points", len(form))
	}
}
