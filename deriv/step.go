package deriv

import (
	"cmp"
	"slices"

	"arborist/api"
)

// by returns the derivative of x by c.
func (m *store) by(x *node, c rune) *node { return x.By(c, m.derive) }

// derive works out the derivative of x by c.
func (m *store) derive(x *node, c rune) *node {
	kids := func() []*node {
		l := make([]*node, len(x.Kids))
		for i, kid := range x.Kids {
			l[i] = m.by(kid, c)
		}
		return l
	}
	switch x.Kind {
	case api.ReSet:
		if x.Has(c) {
			return m.Eps
		}
	case api.ReCat:
		return m.alt(m.byHeads(x, c))
	case api.ReAlt:
		return m.alt(kids())
	case api.ReAnd:
		return m.And(kids())
	case api.ReNot:
		return m.Not(m.by(x.Kids[0], c))
	case api.ReStar:
		return m.cat(m.by(x.Kids[0], c), x)
	}
	return m.None
}

// byHeads returns expressions whose union is the derivative of the concatenation x by c: one for each head up to the first one that does not match the empty text.
func (m *store) byHeads(x *node, c rune) []*node {
	var l []*node
	for x != m.Eps {
		head, tail := m.Split(x)
		l = append(l, m.cat(m.by(head, c), tail))
		if !head.Empty {
			break
		}
		// What the same head, standing there again, would add is part of what this one gives, as the empty text may be left for the other one.
		x = m.behind(x)
	}
	return l
}

// take returns the node for r. If flat is true, nested concatenations become one: else each derivative of left parts in left parts would be sought from the innermost one on.
func (m *store) take(r api.Re, flat bool) *node {
	var take func(r api.Re) *node
	take = func(r api.Re) *node {
		var kids []*node
		eachKid(r, flat, func(kid api.Re) { kids = append(kids, take(kid)) })
		return m.build(r.Kind, r.Set, kids)
	}
	return take(r)
}

// eachKid hands the Kids of r to f, but instead of a union in a union, an intersection in an intersection and, if flat is true, a concatenation in a concatenation their Kids, recursively: to build the inner lists first would copy them again and again.
func eachKid(r api.Re, flat bool, f func(kid api.Re)) {
	opens := r.Kind == api.ReAlt || r.Kind == api.ReAnd || flat && r.Kind == api.ReCat
	for _, kid := range r.Kids {
		if opens && kid.Kind == r.Kind {
			eachKid(kid, flat, f)
		} else {
			f(kid)
		}
	}
}

// give returns the expression of x. Unions and intersections are in an order that does not hang on the numbers of nodes, so that they are the same whenever they are answered.
func give(x *node) api.Re {
	r := api.Re{Kind: x.Kind, Set: slices.Clone(x.Set)}
	for _, part := range parts(x) {
		r.Kids = append(r.Kids, give(part))
	}
	if r.Kind == api.ReAlt || r.Kind == api.ReAnd {
		slices.SortFunc(r.Kids, compare)
	}
	return r
}

// parts returns the kids of x, or the heads and the last tail of a concatenation.
func parts(x *node) []*node {
	if x.Kind != api.ReCat {
		return x.Kids
	}
	var l []*node
	for ; x.Kind == api.ReCat; x = x.Kids[1] {
		l = append(l, x.Kids[0])
	}
	return append(l, x)
}

// compare orders expressions by their Kinds, then by their Sets and then by their Kids.
func compare(a, b api.Re) int {
	if by := cmp.Compare(a.Kind, b.Kind); by != 0 {
		return by
	}
	by := slices.CompareFunc(a.Set, b.Set, func(a, b api.Range) int {
		return cmp.Or(cmp.Compare(a.Lo, b.Lo), cmp.Compare(a.Hi, b.Hi))
	})
	if by != 0 {
		return by
	}
	return slices.CompareFunc(a.Kids, b.Kids, compare)
}

// renew returns a store that holds no more than x, and the node for x in it.
func renew(x *node) (*store, *node) {
	m := newStore()
	moved := map[int]*node{}
	var move func(x *node) *node
	move = func(x *node) *node {
		if y, done := moved[x.Number]; done {
			return y
		}
		var kids []*node
		for _, kid := range x.Kids {
			kids = append(kids, move(kid))
		}
		y := m.build(x.Kind, x.Set, kids)
		moved[x.Number] = y
		return y
	}
	return m, move(x)
}
