package pool_test

import (
	"fmt"
	"slices"
	"testing"

	"arborist/api"
	"arborist/deriv"
	"arborist/pool"
	"arborist/regex"
)

// set is the ReSet of the given bounds: the Lo and the Hi of each range.
func set(bounds ...rune) api.Re {
	r := api.Re{Kind: api.ReSet}
	for i := 0; i+1 < len(bounds); i += 2 {
		r.Set = append(r.Set, api.Range{Lo: bounds[i], Hi: bounds[i+1]})
	}
	return r
}

// normal are expressions in normal form, n in all with leaves, put together by chance.
func normal(n int) []api.Re {
	state := uint32(1)
	next := func(most int) int {
		state = state*1664525 + 1013904223
		return int(state>>16) % most
	}
	l := []api.Re{{Kind: api.ReNone}, {Kind: api.ReEps}, set('a', 'a'), set('b', 'b'), set('a', 'b', 'x', 'z'), regex.Not(api.Re{Kind: api.ReNone})}
	for len(l) < n {
		a, b, c := l[next(len(l))], l[next(len(l))], l[next(6)]
		made := []api.Re{regex.Cat(c, a), regex.Alt(a, b, c), regex.And(c, b, a), regex.Not(a), regex.Star(a)}
		if r := made[next(len(made))]; regex.Size(r) <= 20 {
			l = append(l, r)
		}
	}
	return l
}

// put is the node of the expression r, which is in normal form.
func put(p *pool.Pool, r api.Re) *pool.Node {
	var kids []*pool.Node
	for _, kid := range r.Kids {
		kids = append(kids, put(p, kid))
	}
	switch r.Kind {
	case api.ReEps:
		return p.Eps
	case api.ReSet:
		return p.OfSet(r.Set)
	case api.ReCat:
		tail := kids[len(kids)-1]
		for _, kid := range slices.Backward(kids[:len(kids)-1]) {
			tail = p.Put(api.ReCat, nil, kid, tail)
		}
		return tail
	case api.ReAlt:
		return p.Alt(kids)
	case api.ReAnd:
		return p.And(kids)
	case api.ReNot:
		return p.Not(kids[0])
	case api.ReStar:
		return p.Star(kids[0])
	}
	return p.None
}

// written is the expression of the node x, with the Kids of unions and intersections in the order of layer 4.
func written(p *pool.Pool, x *pool.Node) api.Re {
	var kids []api.Re
	for _, kid := range x.Kids {
		kids = append(kids, written(p, kid))
	}
	switch x.Kind {
	case api.ReCat:
		return regex.Cat(kids...)
	case api.ReAlt:
		return regex.Alt(kids...)
	case api.ReAnd:
		return regex.And(kids...)
	}
	return api.Re{Kind: x.Kind, Set: x.Set, Kids: kids}
}

// mustBe tells if x does not stand for r.
func mustBe(t *testing.T, p *pool.Pool, x *pool.Node, r api.Re) {
	t.Helper()
	if got := written(p, x); !regex.Same(got, r) {
		t.Fatalf("is   %v\nwant %v", got, r)
	}
	if put(p, r) != x {
		t.Fatalf("%v is two nodes", r)
	}
	if x.Empty != deriv.Empty(r) {
		t.Fatalf("%v: empty is %v", r, x.Empty)
	}
}

// Promise P702: the expressions of a pool have the normal forms of layer 4, and those that are equal are one node. Therefore the lists of a DFA are no more than those of the standard derivatives.
func TestP702Forms(t *testing.T) {
	p := pool.New()
	l := normal(400)
	known := map[string]int{}
	for _, r := range l {
		x := put(p, r)
		mustBe(t, p, x, r)
		if n, found := known[fmt.Sprint(r)]; found && n != x.Number {
			t.Fatalf("%v is two nodes", r)
		}
		known[fmt.Sprint(r)] = x.Number
		mustBe(t, p, p.Not(x), regex.Not(r))
		mustBe(t, p, p.Star(x), regex.Star(r))
	}
	for i, r := range l {
		for j := range 40 {
			s, u := l[(i+j)%len(l)], l[(i*j)%len(l)]
			nodes := []*pool.Node{put(p, r), put(p, s), put(p, u)}
			mustBe(t, p, p.Alt(nodes), regex.Alt(r, s, u))
			mustBe(t, p, p.And(nodes), regex.And(r, s, u))
			mustBe(t, p, p.Join(p.Gather(nodes)), regex.Alt(r, s, u))
		}
	}
	numbers := map[int]int{}
	for _, n := range known {
		numbers[n]++
	}
	if len(numbers) != len(known) {
		t.Errorf("%d expressions are %d nodes", len(known), len(numbers))
	}
}

// Promise P702: unions and intersections of nothing, and of one part.
func TestP702FewParts(t *testing.T) {
	p := pool.New()
	a := p.OfSet(set('a', 'a').Set)
	if p.Alt(nil) != p.None || p.And(nil) != p.All || p.Alt([]*pool.Node{a}) != a || p.And([]*pool.Node{a, a}) != a || p.OfSet(nil) != p.None {
		t.Error("few parts")
	}
}

// Promise P702: an expression that is kept as it is written is a node of its own, and becomes flat within one of its kind.
func TestP702Raw(t *testing.T) {
	p := pool.New()
	a, b := p.OfSet(set('a', 'a').Set), p.Star(p.OfSet(set('b', 'b').Set))
	for _, kind := range []api.ReKind{api.ReCat, api.ReAlt, api.ReAnd} {
		raw := p.PutRaw(kind, a, b)
		if raw == p.Put(kind, nil, a, b) || raw != p.PutRaw(kind, a, b) || raw == p.PutRaw(kind, b, a) || !raw.Raw || raw.Empty != (kind == api.ReAlt) {
			t.Errorf("kind %d", kind)
		}
		if head, tail := p.Split(raw); head != raw || tail != p.Eps {
			t.Errorf("kind %d is split", kind)
		}
	}
	if p.Alt([]*pool.Node{p.PutRaw(api.ReAlt, a, p.PutRaw(api.ReAlt, b, p.None)), a}) != p.Alt([]*pool.Node{a, b}) {
		t.Error("a union in a union")
	}
	if p.And([]*pool.Node{p.PutRaw(api.ReAnd, a, p.PutRaw(api.ReAnd, b, p.All)), a}) != p.And([]*pool.Node{a, b}) {
		t.Error("an intersection in an intersection")
	}
}

// Promise P702: a set has the runes of its ranges.
func TestP702Has(t *testing.T) {
	p := pool.New()
	x := p.OfSet(set(0, 2, 5, 5, 9, 12, 1114111, 1114111).Set)
	for c := rune(-1); c < 15; c++ {
		if want := 0 <= c && c <= 2 || c == 5 || 9 <= c && c <= 12; x.Has(c) != want {
			t.Errorf("%d: %v", c, x.Has(c))
		}
	}
	if !x.Has(1114111) || x.Has(1114110) || p.Eps.Has(0) {
		t.Error("ends")
	}
}
