package dfa

import (
	"slices"

	"arborist/api"
	"arborist/pool"
	"arborist/regex"
)

// node is an expression of a store.
type node = pool.Node

// store is a pool in which each node stands for one expression as it is written: nothing but what the constructors of layer 4 do is done to it. Therefore the lists that are told apart here are those of the standard derivatives, and not more.
type store struct {
	*pool.Pool
	// divided holds the branches of the expressions for which they have been worked out.
	divided map[int][]branch
	// work grows with the time that was spent.
	work int
}

// branch is a part of an expression whose derivative is the union of those of its branches: the derivative of the head, with the tail behind it. Without a tail, the branch is no part of a concatenation.
type branch struct{ head, tail *node }

// newStore returns a store with the expressions that stand for nothing, the empty text and every text.
func newStore() *store { return &store{Pool: pool.New(), divided: map[int][]branch{}} }

// take returns the node for the valid expression r.
func (m *store) take(r api.Re) *node {
	var kids []*node
	for _, kid := range r.Kids {
		kids = append(kids, m.take(kid))
	}
	if !isNormal(r) {
		return m.PutRaw(r.Kind, kids...)
	}
	switch r.Kind {
	case api.ReEps:
		return m.Eps
	case api.ReSet:
		return m.OfSet(r.Set)
	case api.ReCat:
		return m.chain(kids, m.Eps)
	case api.ReAlt:
		return m.Alt(kids)
	case api.ReAnd:
		return m.And(kids)
	case api.ReNot:
		return m.Not(kids[0])
	case api.ReStar:
		return m.Star(kids[0])
	}
	return m.None
}

// isNormal reports whether the constructor of layer 4 leaves r as it is.
func isNormal(r api.Re) bool {
	switch r.Kind {
	case api.ReCat:
		return regex.Same(r, regex.Cat(r.Kids...))
	case api.ReAlt:
		return regex.Same(r, regex.Alt(r.Kids...))
	case api.ReAnd:
		return regex.Same(r, regex.And(r.Kids...))
	case api.ReNot:
		return regex.Same(r, regex.Not(r.Kids[0]))
	case api.ReStar:
		return regex.Same(r, regex.Star(r.Kids[0]))
	}
	return true
}

// cat returns the concatenation of x and y, which is in normal form.
func (m *store) cat(x, y *node) *node {
	m.work++
	switch {
	case x == m.None || y == m.None:
		return m.None
	case x == m.Eps:
		return y
	case x.Kind == api.ReCat && x.Raw:
		return m.chain(x.Kids, y)
	case y == m.Eps:
		return x
	case x.Kind == api.ReCat:
		return m.cat(x.Kids[0], m.cat(x.Kids[1], y))
	}
	return m.Put(api.ReCat, nil, x, y)
}

// chain returns the concatenation of the expressions of l and of y, which is in normal form.
func (m *store) chain(l []*node, y *node) *node {
	for _, x := range slices.Backward(l) {
		y = m.cat(x, y)
	}
	return y
}

// by returns the standard derivative of x by c.
func (m *store) by(x *node, c rune) *node { return x.By(c, m.derive) }

// derive works out the standard derivative of x by c.
func (m *store) derive(x *node, c rune) *node {
	m.work++
	switch x.Kind {
	case api.ReSet:
		if x.Has(c) {
			return m.Eps
		}
	case api.ReCat, api.ReAlt:
		return m.alt(m.branches(x), c)
	case api.ReAnd:
		var l []*node
		for _, kid := range x.Kids {
			l = append(l, m.by(kid, c))
		}
		return m.And(m.count(l))
	case api.ReNot:
		return m.Not(m.by(x.Kids[0], c))
	case api.ReStar:
		return m.cat(m.by(x.Kids[0], c), x)
	}
	return m.None
}

// alt returns the union of the standard derivatives of the branches by c.
func (m *store) alt(branches []branch, c rune) *node {
	var l []*node
	for _, b := range branches {
		d := m.by(b.head, c)
		if b.tail != nil {
			d = m.cat(d, b.tail)
		}
		if d != m.None {
			l = append(l, d)
		}
	}
	m.work += len(branches)
	return m.Alt(m.count(l))
}

// count adds the size of what is to be put together from l to the work, and returns l.
func (m *store) count(l []*node) []*node {
	for _, x := range l {
		m.work += 1 + len(x.Kids) + len(x.Set)
	}
	return l
}

// branches returns the branches of x. A concatenation that is the tail of more than one other is gone through once.
func (m *store) branches(x *node) []branch {
	if l, known := m.divided[x.Number]; known {
		return l
	}
	var l []branch
	seen := map[int]struct{}{}
	var walk func(x *node)
	walk = func(x *node) {
		if _, done := seen[x.Number]; done {
			return
		}
		seen[x.Number] = struct{}{}
		switch {
		case x.Kind == api.ReAlt:
			for _, kid := range x.Kids {
				walk(kid)
			}
		case x.Kind != api.ReCat:
			l = append(l, branch{head: x})
		case x.Raw:
			l = append(l, m.rawBranches(x)...)
		default:
			head, tail := m.Split(x)
			l = append(l, branch{head, tail})
			if head.Empty && tail.Kind == api.ReCat {
				walk(tail)
			} else if head.Empty {
				l = append(l, branch{tail, m.Eps})
			}
		}
	}
	walk(x)
	m.divided[x.Number] = l
	return l
}

// rawBranches returns the branches of a concatenation that is kept as it is written.
func (m *store) rawBranches(x *node) []branch {
	l := make([]branch, len(x.Kids))
	tail := m.Eps
	for i, kid := range slices.Backward(x.Kids) {
		l[i] = branch{kid, tail}
		tail = m.cat(kid, tail)
	}
	if i := slices.IndexFunc(x.Kids, func(kid *node) bool { return !kid.Empty }); i >= 0 {
		l = l[:i+1]
	}
	return l
}
