package deriv

import (
	"slices"

	"arborist/api"
	"arborist/pool"
)

// node is an expression of a store. The tail of a ReCat is not ReEps.
type node = pool.Node

// store is a pool of expressions, with what has been worked out about them.
type store struct {
	*pool.Pool
	// rest holds for each concatenation what stands behind the equal heads at its beginning.
	rest map[int]*node
}

// newStore returns a store with the expressions that stand for nothing, the empty text and every text.
func newStore() *store { return &store{Pool: pool.New(), rest: map[int]*node{}} }

// allowance is the size up to which m may grow before its state should move to a new store. A store that has just been filled may grow to its double size at least, so that moving costs no more than what was done before.
func (m *store) allowance() int {
	const least = 1 << 20
	return max(least, 2*m.Size)
}

// build returns the normal form of the expression with this kind, set and kids. It keeps set.
func (m *store) build(kind api.ReKind, set api.Set, kids []*node) *node {
	switch {
	case kind == api.ReEps:
		return m.Eps
	case kind == api.ReSet:
		return m.OfSet(set)
	case kind == api.ReCat:
		tail := m.Eps
		for _, kid := range slices.Backward(kids) {
			tail = m.cat(kid, tail)
		}
		return tail
	case kind == api.ReAlt:
		return m.alt(kids)
	case kind == api.ReAnd:
		return m.And(kids)
	case kind == api.ReNot && len(kids) == 1:
		return m.Not(kids[0])
	case kind == api.ReStar && len(kids) == 1:
		return m.Star(kids[0])
	}
	return m.None
}

// cat returns the concatenation of head and tail. It does not turn (xy)z into x(yz): as it leaves them, all tails of derivatives are those of the expression itself, and alt can tell by them which heads belong together.
func (m *store) cat(head, tail *node) *node {
	switch {
	case head == m.None || tail == m.None:
		return m.None
	case head == m.Eps:
		return tail
	case tail == m.Eps:
		return head
	}
	x := m.Put(api.ReCat, nil, head, tail)
	m.rest[x.Number] = tail
	if next, _ := m.Split(tail); next == head {
		m.rest[x.Number] = m.behind(tail)
	}
	return x
}

// behind returns what stands behind the equal heads at the beginning of x.
func (m *store) behind(x *node) *node {
	if x.Kind == api.ReCat {
		return m.rest[x.Number]
	}
	return m.Eps
}

// alt returns the union of the parts. Concatenations with the same tail become one: else a star of an ambiguous expression would have a derivative for each set of its derivatives.
func (m *store) alt(parts []*node) *node {
	l := m.Gather(parts)
	merged := make([]*node, 0, len(l))
	for from := 0; from < len(l); {
		_, tail := m.Split(l[from])
		to := from + 1
		for ; to < len(l) && tail != m.Eps && m.hasTail(l[to], tail); to++ {
		}
		merged = append(merged, m.factor(l[from:to], tail))
		from = to
	}
	if len(merged) < len(l) {
		return m.alt(merged)
	}
	return m.Join(l)
}

// hasTail reports whether x is a concatenation with the given tail.
func (m *store) hasTail(x, tail *node) bool {
	_, is := m.Split(x)
	return is == tail
}

// factor returns the union of the concatenations l, which have the given tail.
func (m *store) factor(l []*node, tail *node) *node {
	if len(l) == 1 {
		return l[0]
	}
	var heads []*node
	for _, x := range l {
		head, _ := m.Split(x)
		heads = append(heads, head)
	}
	return m.cat(m.alt(heads), tail)
}
