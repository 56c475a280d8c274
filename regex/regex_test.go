package regex_test

import (
	"fmt"
	"math"
	"slices"
	"testing"

	"arborist/api"
	"arborist/regex"
)

// maxRune is the last code point as a rune.
const maxRune rune = api.MaxRune

// leaf is an expression of the given kind without Set and Kids.
func leaf(kind api.ReKind) api.Re { return api.Re{Kind: kind} }

// of is an expression of the given kind with the given Kids.
func of(kind api.ReKind, kids ...api.Re) api.Re { return api.Re{Kind: kind, Kids: kids} }

// set is the ReSet of the given bounds: the Lo and the Hi of each range.
func set(bounds ...rune) api.Re {
	r := api.Re{Kind: api.ReSet}
	for i := 0; i+1 < len(bounds); i += 2 {
		r.Set = append(r.Set, api.Range{Lo: bounds[i], Hi: bounds[i+1]})
	}
	return r
}

// all is the expression that matches every text.
func all() api.Re { return of(api.ReNot, leaf(api.ReNone)) }

// chain is an expression of n nested nodes of the given kind around the core; a kind of two Kids or more has leaves besides.
func chain(kind api.ReKind, n int, core api.Re) api.Re {
	for range n {
		switch kind {
		case api.ReNot, api.ReStar:
			core = of(kind, core)
		default:
			core = of(kind, set('a', 'a'), core)
		}
	}
	return core
}

// wide is an expression of the given kind with n Kids.
func wide(kind api.ReKind, n int) api.Re {
	return of(kind, slices.Repeat([]api.Re{set('a', 'b')}, n)...)
}

// key is the text form of an expression: keys are ordered, compared lexicographically, as the expressions are, and are equal only if these are.
func key(r api.Re) []int {
	l := []int{int(r.Kind)}
	for _, q := range r.Set {
		l = append(l, 1, int(q.Lo), int(q.Hi))
	}
	l = append(l, 0)
	for _, kid := range r.Kids {
		l = append(append(l, 1), key(kid)...)
	}
	return append(l, 0)
}

// equal reports whether a and b have equal keys.
func equal(a, b api.Re) bool { return slices.Equal(key(a), key(b)) }

// mustBe tells if an expression that a call answered is not the wanted one.
func mustBe(t *testing.T, got, want api.Re, call string, arguments ...api.Re) {
	t.Helper()
	if !equal(got, want) {
		t.Errorf("%s of %v is %v, want %v", call, show(arguments...), show(got), show(want))
	}
}

// show is a text for the expressions of l, cut if it is long.
func show(l ...api.Re) string {
	const most = 300
	s := fmt.Sprint(l)
	if len(s) > most {
		return s[:most] + " .."
	}
	return s
}

// leaves are valid expressions of one node.
func leaves() []api.Re {
	return []api.Re{leaf(api.ReNone), leaf(api.ReEps), set('a', 'a'), set('b', 'b'), set('a', 'b'), set('a', 'a', 'x', 'x'), set('c', 'z'), set(0, maxRune)}
}

// tame are valid expressions, most of them not in normal form.
func tame() []api.Re {
	a, b, ab, none, eps := set('a', 'a'), set('b', 'b'), set('a', 'b'), leaf(api.ReNone), leaf(api.ReEps)
	l := append(leaves(), all(), of(api.ReNot, all()), of(api.ReNot, eps), of(api.ReNot, a), of(api.ReStar, a), of(api.ReStar, none), of(api.ReStar, eps), of(api.ReStar, of(api.ReStar, b)))
	for _, kind := range []api.ReKind{api.ReCat, api.ReAlt, api.ReAnd} {
		l = append(l,
			of(kind, a, b), of(kind, b, a), of(kind, b, a, b), of(kind, a, eps), of(kind, eps, eps), of(kind, none, ab), of(kind, all(), a), of(kind, all(), all()),
			of(kind, of(kind, of(kind, a, eps), of(api.ReStar, b)), b), of(kind, of(api.ReCat, b, a), of(api.ReCat, a, b), of(api.ReCat, a, b)),
			of(kind, of(api.ReAlt, a, eps), of(api.ReAnd, ab, b)), of(api.ReNot, of(kind, ab, eps)), of(api.ReStar, of(kind, a, b, of(api.ReNot, b))),
		)
	}
	return l
}

// few are some of the tame expressions, among them all leaves.
func few() []api.Re {
	var l []api.Re
	for i, r := range tame() {
		if i < len(leaves()) || i%3 == 0 {
			l = append(l, r)
		}
	}
	return l
}

// wild are expressions that are not valid, or too deep, or whose empty lists are not nil.
func wild() []api.Re {
	a := set('a', 'a')
	l := []api.Re{{}, {Set: a.Set}, {Kids: []api.Re{a}}, leaf(-1), leaf(9), leaf(math.MinInt), leaf(math.MaxInt), of(9, a, a), of(-1, a)}
	for kind := api.ReNone; kind <= api.ReStar; kind++ {
		l = append(l, leaf(kind), of(kind, a), of(kind, a, a), of(kind, a, a, a), of(kind, api.Re{}), of(kind, leaf(kind), leaf(kind)), api.Re{Kind: kind, Set: api.Set{}, Kids: []api.Re{}})
		for _, s := range []api.Re{set('b', 'a'), set(-1, 4), set(5, maxRune+1), set('a', 'b', 'c', 'd'), set('c', 'd', 'a', 'b'), set(math.MinInt32, math.MaxInt32), a} {
			l = append(l, api.Re{Kind: kind, Set: s.Set}, api.Re{Kind: kind, Set: s.Set, Kids: []api.Re{a}}, api.Re{Kind: kind, Set: s.Set, Kids: []api.Re{s, leaf(api.ReNone)}})
		}
		l = append(l, chain(kind, api.MaxDeep, a))
	}
	return l
}

// huge are expressions of MaxRe + 1 nodes, one of each kind.
func huge() []api.Re {
	var l []api.Re
	for kind := api.ReNone; kind <= api.ReStar; kind++ {
		l = append(l, wide(kind, api.MaxRe))
	}
	return l
}

// Promise P401: no argument makes a call panic, nor do the results of calls with wrong arguments.
func TestP401AllArguments(t *testing.T) {
	for _, a := range append(wild(), huge()...) {
		for _, r := range []api.Re{regex.Not(a), regex.Star(a), regex.Cat(a), regex.Alt(a), regex.And(a), regex.OfSet(a.Set)} {
			regex.Right(r)
			regex.Not(r)
			regex.Star(r)
			if regex.Size(r) < 1 || !regex.Same(r, r) {
				t.Errorf("%v, answered for %v", show(r), show(a))
			}
		}
		for _, n := range []int{math.MinInt, -2, -1, 0, 2, api.MaxTimes, api.MaxTimes + 1, math.MaxInt} {
			for _, m := range []int{math.MinInt, -2, -1, 0, 2, api.MaxTimes, api.MaxTimes + 1, math.MaxInt} {
				if r, e := regex.Times(a, n, m); e != api.OK && !equal(r, api.Re{}) {
					t.Errorf("Times(.., %d, %d) answers %v beside %d", n, m, show(r), e)
				}
			}
		}
	}
}

// Promise P401: no pair of arguments makes a call panic.
func TestP401AllPairs(t *testing.T) {
	pool := append(wild(), few()...)
	for _, a := range pool {
		for _, b := range pool {
			l := []api.Re{a, b, a}
			for _, r := range []api.Re{regex.Cat(l...), regex.Alt(l...), regex.And(l...)} {
				if regex.Right(r) == api.OK && regex.Size(r) > 2*regex.Size(a)+regex.Size(b)+1 {
					t.Errorf("%v, answered for %v", show(r), show(l...))
				}
			}
			if regex.Same(a, b) != regex.Same(b, a) {
				t.Errorf("Same of %v and %v", show(a), show(b))
			}
		}
	}
}

// Promise P401: expressions nested as deeply as the document bounds them, and lists of very many parts, are taken.
func TestP401Large(t *testing.T) {
	const deep = 1<<16 - 2
	for kind := api.ReCat; kind <= api.ReStar; kind++ {
		x, y := chain(kind, deep, set('b', 'b')), chain(kind, deep, set('c', 'c'))
		nodes := deep + 1
		if kind <= api.ReAnd {
			nodes += deep
		}
		if n := regex.Size(x); n != nodes {
			t.Errorf("Size is %d, want %d", n, nodes)
		}
		if regex.Right(x) != api.ErrLong || regex.Same(x, y) || !regex.Same(x, x) {
			t.Errorf("Right or Same of a chain of kind %d", kind)
		}
		for _, r := range []api.Re{regex.Cat(x, y), regex.Alt(x, y), regex.And(x, y), regex.Not(x), regex.Star(x)} {
			regex.Size(r)
		}
		if _, e := regex.Times(x, 1, 1); e != api.ErrLong {
			t.Errorf("Times answers %d", e)
		}
	}
	const many = 100000
	var points, gaps []api.Re
	for i := range rune(many) {
		points = append(points, set(2*i, 2*i))
		gaps = append(gaps, set(0, 2*i, 2*i+2, maxRune))
	}
	if s := regex.Alt(points...); s.Kind != api.ReSet || len(s.Set) != many {
		t.Errorf("Alt of many sets has %d ranges", len(s.Set))
	}
	if s := regex.And(gaps...); s.Kind != api.ReSet || len(s.Set) != many+1 {
		t.Errorf("And of many sets has %d ranges", len(s.Set))
	}
}

// Promise P401: nil and empty lists are equivalent.
func TestP401Empty(t *testing.T) {
	empty := func(kind api.ReKind) api.Re { return api.Re{Kind: kind, Set: api.Set{}, Kids: []api.Re{}} }
	everything := api.Re{Kind: api.ReNot, Set: api.Set{}, Kids: []api.Re{empty(api.ReNone)}}
	a := api.Re{Kind: api.ReSet, Set: set('a', 'a').Set, Kids: []api.Re{}}
	for _, kind := range []api.ReKind{api.ReNone, api.ReEps} {
		if regex.Right(empty(kind)) != api.OK || !regex.Same(empty(kind), leaf(kind)) || !regex.Same(leaf(kind), empty(kind)) {
			t.Errorf("an empty list of kind %d is not like nil", kind)
		}
	}
	if regex.Right(everything) != api.OK || regex.Right(a) != api.OK || regex.Right(empty(api.ReSet)) != api.ErrClass || regex.Right(empty(api.ReCat)) != api.ErrCount {
		t.Error("Right tells nil and empty lists apart")
	}
	mustBe(t, regex.Cat(empty(api.ReEps), a), a, "Cat")
	mustBe(t, regex.Cat(a, empty(api.ReNone)), leaf(api.ReNone), "Cat")
	mustBe(t, regex.Alt(empty(api.ReNone), a), a, "Alt")
	mustBe(t, regex.Alt(everything, a), all(), "Alt")
	mustBe(t, regex.Alt(empty(api.ReEps), leaf(api.ReEps)), leaf(api.ReEps), "Alt")
	mustBe(t, regex.And(everything, a), a, "And")
	mustBe(t, regex.And(everything, empty(api.ReNone)), leaf(api.ReNone), "And")
	for _, l := range [][]api.Re{nil, {}} {
		mustBe(t, regex.Cat(l...), leaf(api.ReEps), "Cat")
		mustBe(t, regex.Alt(l...), leaf(api.ReNone), "Alt")
		mustBe(t, regex.And(l...), all(), "And")
	}
	mustBe(t, regex.OfSet(nil), leaf(api.ReNone), "OfSet")
	mustBe(t, regex.OfSet(api.Set{}), leaf(api.ReNone), "OfSet")
}

// memory has an entry for each place in the lists of the expressions that were marked.
type memory map[any]bool

// mark enters the places of all lists of r, those behind their lengths too. It tells if one of them has been entered before.
func (m memory) mark(t *testing.T, r api.Re, call string) {
	t.Helper()
	ranges, kids := r.Set[:cap(r.Set)], r.Kids[:cap(r.Kids)]
	for i := range ranges {
		m.enter(t, &ranges[i], call)
	}
	for i := range kids {
		m.enter(t, &kids[i], call)
	}
	for _, kid := range r.Kids {
		m.mark(t, kid, call)
	}
}

// enter enters a place.
func (m memory) enter(t *testing.T, place any, call string) {
	t.Helper()
	if m[place] {
		t.Fatalf("%s answers memory that is in use elsewhere", call)
	}
	m[place] = true
}

// spare is a copy of l, and of all lists in it, with room behind each list, which holds the given expression or its first range.
func spare(l []api.Re, beyond api.Re) []api.Re {
	c := make([]api.Re, 0, len(l)+3)
	for _, r := range l {
		s := append(make(api.Set, 0, len(r.Set)+3), r.Set...)
		copy(s[len(s):cap(s)], slices.Repeat(beyond.Set, 3))
		c = append(c, api.Re{Kind: r.Kind, Set: s, Kids: spare(r.Kids, beyond)})
	}
	for i := range 3 {
		c[len(l) : len(l)+3][i] = api.Re{Kind: beyond.Kind, Set: slices.Clone(beyond.Set)}
	}
	return c
}

// full is what the lists of r hold, behind their lengths too.
func full(r api.Re) []int {
	l := []int{int(r.Kind)}
	for _, q := range r.Set[:cap(r.Set)] {
		l = append(l, 1, int(q.Lo), int(q.Hi))
	}
	l = append(l, 0)
	for _, kid := range r.Kids[:cap(r.Kids)] {
		l = append(append(l, 1), full(kid)...)
	}
	return append(l, 0)
}

// Promise P401: the arguments stay as they are, behind their lengths too, and no two lists of answers and arguments share memory.
func TestP401Pure(t *testing.T) {
	pool := few()
	for i, a := range pool {
		for j := range pool {
			// Each expression meets a part of the others only, which part changing from one to the next.
			if (i+j)%3 != 0 {
				continue
			}
			held := of(api.ReCat, spare([]api.Re{a, pool[j], a}, set('!', '!'))...)
			x := held.Kids
			kept := full(held)
			m := memory{}
			m.mark(t, held, "the test")
			for range 2 {
				m.mark(t, regex.Cat(x...), "Cat")
				m.mark(t, regex.Alt(x...), "Alt")
				m.mark(t, regex.And(x...), "And")
				m.mark(t, regex.Not(x[0]), "Not")
				m.mark(t, regex.Star(x[0]), "Star")
				m.mark(t, regex.OfSet(x[0].Set), "OfSet")
				for _, high := range []int{-1, 2, 3} {
					r, _ := regex.Times(x[0], 2, high)
					m.mark(t, r, "Times")
				}
			}
			regex.Right(x[0])
			regex.Same(x[0], x[1])
			regex.Size(x[1])
			if !slices.Equal(full(held), kept) {
				t.Fatalf("the arguments %v have changed", show(x...))
			}
		}
	}
	m := memory{}
	m.mark(t, regex.Lit("aaa"), "Lit")
	m.mark(t, regex.Lit("aaa"), "Lit")
}

// Promise P402: Right asks for a known Kind, then for the right number of Kids, then for the right Set.
func TestP402RightNode(t *testing.T) {
	for kind := api.ReKind(-1); kind <= 10; kind++ {
		for count := range 4 {
			for _, c := range []struct {
				s     api.Set
				valid bool
			}{
				{nil, false}, {api.Set{}, false}, {set('a', 'a').Set, true}, {set('a', 'b', 'd', 'd').Set, true}, {set(0, maxRune).Set, true},
				{set('b', 'a').Set, false}, {set(-1, 'a').Set, false}, {set('a', maxRune+1).Set, false}, {set('a', 'b', 'c', 'c').Set, false}, {set('c', 'c', 'a', 'a').Set, false},
			} {
				least, most := 0, 0
				if kind >= api.ReCat && kind <= api.ReAnd {
					least, most = 2, 3
				}
				if kind == api.ReNot || kind == api.ReStar {
					least, most = 1, 1
				}
				want := api.OK
				switch {
				case kind < 1 || kind > 8:
					want = api.ErrKind
				case count < least || count > most:
					want = api.ErrCount
				case kind == api.ReSet && !c.valid, kind != api.ReSet && len(c.s) > 0:
					want = api.ErrClass
				}
				r := api.Re{Kind: kind, Set: c.s, Kids: slices.Repeat([]api.Re{leaf(api.ReEps)}, count)}
				for _, x := range []api.Re{r, of(api.ReStar, r), of(api.ReAnd, leaf(api.ReEps), of(api.ReNot, r), set('a', 'a'))} {
					if e := regex.Right(x); e != want {
						t.Errorf("Right(%v) = %d, want %d", show(x), e, want)
					}
				}
			}
		}
	}
	for _, kind := range []api.ReKind{math.MinInt, math.MaxInt, 1 << 32, 1<<32 + 3} {
		if e := regex.Right(leaf(kind)); e != api.ErrKind {
			t.Errorf("Right of kind %d is %d", kind, e)
		}
	}
}

// Promise P402: Right returns the error of the first node in preorder, a node ahead of its Kids.
func TestP402RightPreorder(t *testing.T) {
	kind, count, class, fine := leaf(0), leaf(api.ReStar), leaf(api.ReSet), leaf(api.ReEps)
	for _, c := range []struct {
		r    api.Re
		want api.Errno
	}{
		{of(api.ReCat, kind, count, class), api.ErrKind},
		{of(api.ReCat, count, kind, class), api.ErrCount},
		{of(api.ReCat, class, kind, count), api.ErrClass},
		{of(api.ReCat, fine, class, kind), api.ErrClass},
		{of(api.ReCat, fine, of(api.ReAlt, fine, count), kind), api.ErrCount},
		{of(api.ReCat, fine, of(api.ReAlt, fine, fine), class), api.ErrClass},
		{of(api.ReCat, of(api.ReNot, of(api.ReNot, class)), kind), api.ErrClass},
		{of(api.ReNot, kind, fine), api.ErrCount},
		{of(api.ReCat, kind), api.ErrCount},
		{of(9, count), api.ErrKind},
		{api.Re{Kind: api.ReStar, Set: set('a', 'a').Set, Kids: []api.Re{kind}}, api.ErrClass},
		{of(api.ReSet, kind), api.ErrCount},
		{of(api.ReEps, kind), api.ErrCount},
	} {
		if e := regex.Right(c.r); e != c.want {
			t.Errorf("Right(%v) = %d, want %d", show(c.r), e, c.want)
		}
	}
	for _, r := range tame() {
		if e := regex.Right(r); e != api.OK {
			t.Errorf("Right(%v) = %d", show(r), e)
		}
	}
}

// Promise P402: Right allows MaxRe nodes and a depth of MaxDeep, and tells of too many nodes ahead of all else, then of the depth.
func TestP402RightLimits(t *testing.T) {
	a := set('a', 'a')
	flawed := of(api.ReCat, leaf(0), leaf(api.ReSet))
	// 40 levels whose Kids are two of the level below share so much memory that their nodes cannot be counted.
	shared := a
	for range 40 {
		shared = of(api.ReCat, shared, shared)
	}
	for _, c := range []struct {
		name string
		r    api.Re
		want api.Errno
	}{
		{"4096 nodes", wide(api.ReAlt, api.MaxRe-1), api.OK},
		{"4097 nodes", wide(api.ReAlt, api.MaxRe), api.ErrLong},
		{"4096 nodes in two lists", of(api.ReCat, wide(api.ReAlt, 2000), wide(api.ReAnd, 2093)), api.OK},
		{"4097 nodes in two lists", of(api.ReCat, wide(api.ReAlt, 2000), wide(api.ReAnd, 2094)), api.ErrLong},
		{"depth 100", chain(api.ReStar, api.MaxDeep-1, a), api.OK},
		{"depth 101", chain(api.ReStar, api.MaxDeep, a), api.ErrDeep},
		{"depth 100 on the right", chain(api.ReAlt, api.MaxDeep-1, a), api.OK},
		{"depth 101 on the right", chain(api.ReAlt, api.MaxDeep, a), api.ErrDeep},
		{"depth 101 on the left", of(api.ReCat, chain(api.ReNot, api.MaxDeep-1, a), a), api.ErrDeep},
		{"depth 100 in the middle", of(api.ReCat, a, chain(api.ReNot, api.MaxDeep-2, a), a), api.OK},
		{"4097 nodes, depth 101", of(api.ReCat, chain(api.ReNot, api.MaxDeep-1, a), wide(api.ReCat, api.MaxRe-api.MaxDeep-1)), api.ErrLong},
		{"4096 nodes, depth 101", of(api.ReCat, chain(api.ReNot, api.MaxDeep-1, a), wide(api.ReCat, api.MaxRe-api.MaxDeep-2)), api.ErrDeep},
		{"4097 nodes, first flawed", of(api.ReCat, leaf(0), wide(api.ReCat, api.MaxRe-2)), api.ErrLong},
		{"4096 nodes, first flawed", of(api.ReCat, leaf(0), wide(api.ReCat, api.MaxRe-3)), api.ErrKind},
		{"depth 101, first flawed", of(api.ReCat, flawed, chain(api.ReNot, api.MaxDeep-1, a)), api.ErrDeep},
		{"depth 100, first flawed", of(api.ReCat, flawed, chain(api.ReNot, api.MaxDeep-2, a)), api.ErrKind},
		{"flawed root of 4097 nodes", wide(0, api.MaxRe), api.ErrLong},
		{"flawed root of 4096 nodes", wide(0, api.MaxRe-1), api.ErrKind},
		{"leaf with Kids, too deep", chain(api.ReStar, 1, of(api.ReNone, chain(api.ReStar, api.MaxDeep-2, a))), api.ErrDeep},
		{"shared Kids", shared, api.ErrLong},
	} {
		if e := regex.Right(c.r); e != c.want {
			t.Errorf("Right of %s is %d, want %d", c.name, e, c.want)
		}
	}
}

// Promise P402: Same compares Kinds, Sets and Kids, of expressions that are not valid too.
func TestP402Same(t *testing.T) {
	pool := slices.Concat(tame(), wild(), huge())
	pool = append(pool, of(api.ReCat, set('a', 'a')), of(api.ReCat, set('a', 'b'), set('a', 'a')), of(api.ReStar, set('a', 'b')), set('a', 'c'), set('b', 'c'), set('a', 'a', 'c', 'c'), wide(api.ReAlt, api.MaxRe-1))
	keys := make([][]int, len(pool))
	for i, r := range pool {
		keys[i] = key(r)
	}
	for i, a := range pool {
		for j, b := range pool {
			if is := regex.Same(a, b); is != slices.Equal(keys[i], keys[j]) {
				t.Errorf("Same is %v of %v and %v", is, show(a), show(b))
			}
		}
	}
}

// Promise P402: Size counts the nodes, of expressions that are not valid too.
func TestP402Size(t *testing.T) {
	a := set('a', 'a')
	for _, c := range []struct {
		r    api.Re
		want int
	}{
		{api.Re{}, 1}, {a, 1}, {leaf(api.ReNone), 1}, {all(), 2}, {of(api.ReCat, a, a), 3}, {of(api.ReCat, a, of(api.ReStar, a), a), 5},
		{of(api.ReEps, a, of(0, a, a)), 5}, {wide(api.ReAlt, 5000), 5001}, {chain(api.ReNot, 200, a), 201}, {chain(api.ReAnd, 200, a), 401},
	} {
		if n := regex.Size(c.r); n != c.want {
			t.Errorf("Size(%v) = %d, want %d", show(c.r), n, c.want)
		}
	}
	for _, r := range slices.Concat(tame(), wild(), huge()) {
		if n := regex.Size(r); n != size(r) {
			t.Errorf("Size(%v) = %d", show(r), n)
		}
	}
}

// size is the number of nodes of all expressions of l.
func size(l ...api.Re) int {
	n := len(l)
	for _, r := range l {
		n += size(r.Kids...)
	}
	return n
}

// depth is the greatest depth of the expressions of l, or 0.
func depth(l ...api.Re) int {
	n := 0
	for _, r := range l {
		n = max(n, 1+depth(r.Kids...))
	}
	return n
}
