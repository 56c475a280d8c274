package deriv

import (
	"cmp"
	"slices"
	"strconv"

	"arborist/api"
	"arborist/charset"
)

// node is an expression of a store. A ReCat has two kids, of which the second one, its tail, is not ReEps; the kids of a ReAlt and of a ReAnd are in the order of compare, without duplicates.
type node struct {
	number int
	kind   api.ReKind
	set    api.Set
	kids   []*node
	// empty tells whether the expression matches the empty text.
	empty bool
	// rest is what stands behind the equal heads at the beginning of a concatenation.
	rest *node
	// by holds the derivatives that have been worked out.
	by map[rune]*node
}

// store holds expressions and what has been worked out about them, each once: it finds them by their text form, in which kids stand as their numbers. Therefore equal expressions are the same node.
type store struct {
	known          map[string]*node
	none, eps, all *node
	// sets are the different sets of the expressions.
	sets []api.Set
	// size is the number of nodes, of their kids and of the ranges of their sets.
	size int
	text []byte
}

// newStore returns a store with the expressions that stand for nothing, the empty text and every text.
func newStore() *store {
	m := &store{known: map[string]*node{}}
	m.none = m.put(api.ReNone, nil)
	m.eps = m.put(api.ReEps, nil)
	m.all = m.put(api.ReNot, nil, m.none)
	return m
}

// allowance is the size up to which m may grow before its state should move to a new store. A store that has just been filled may grow to its double size at least, so that moving costs no more than what was done before.
func (m *store) allowance() int {
	const least = 1 << 20
	return max(least, 2*m.size)
}

// put returns the node with the given text form. It keeps set and kids.
func (m *store) put(kind api.ReKind, set api.Set, kids ...*node) *node {
	m.text = strconv.AppendInt(m.text[:0], int64(kind), 10)
	for _, q := range set {
		m.text = strconv.AppendInt(append(m.text, ' '), int64(q.Lo), 10)
		m.text = strconv.AppendInt(append(m.text, '-'), int64(q.Hi), 10)
	}
	for _, kid := range kids {
		m.text = strconv.AppendInt(append(m.text, ' '), int64(kid.number), 10)
	}
	if x, known := m.known[string(m.text)]; known {
		return x
	}
	x := &node{number: len(m.known), kind: kind, set: set, kids: kids, empty: isEmpty(kind, kids)}
	m.known[string(m.text)] = x
	m.size += 1 + len(set) + len(kids)
	if kind == api.ReSet {
		m.sets = append(m.sets, set)
	}
	return x
}

// isEmpty reports whether the expression with this kind and these kids matches the empty text.
func isEmpty(kind api.ReKind, kids []*node) bool {
	switch kind {
	case api.ReEps, api.ReStar:
		return true
	case api.ReAlt:
		return slices.ContainsFunc(kids, func(x *node) bool { return x.empty })
	case api.ReCat, api.ReAnd:
		return !slices.ContainsFunc(kids, func(x *node) bool { return !x.empty })
	case api.ReNot:
		return !kids[0].empty
	}
	return false
}

// build returns the normal form of the expression with this kind, set and kids. It keeps set.
func (m *store) build(kind api.ReKind, set api.Set, kids []*node) *node {
	switch {
	case kind == api.ReEps:
		return m.eps
	case kind == api.ReSet:
		return m.set(set)
	case kind == api.ReCat:
		tail := m.eps
		for _, kid := range slices.Backward(kids) {
			tail = m.cat(kid, tail)
		}
		return tail
	case kind == api.ReAlt:
		return m.alt(kids)
	case kind == api.ReAnd:
		return m.and(kids)
	case kind == api.ReNot && len(kids) == 1:
		return m.not(kids[0])
	case kind == api.ReStar && len(kids) == 1:
		return m.star(kids[0])
	}
	return m.none
}

// set returns the expression that matches each rune of s. It keeps s.
func (m *store) set(s api.Set) *node {
	if len(s) == 0 {
		return m.none
	}
	return m.put(api.ReSet, s)
}

// cat returns the concatenation of head and tail. It does not turn (xy)z into x(yz): as it leaves them, all tails of derivatives are those of the expression itself, and alt can tell by them which heads belong together.
func (m *store) cat(head, tail *node) *node {
	switch {
	case head == m.none || tail == m.none:
		return m.none
	case head == m.eps:
		return tail
	case tail == m.eps:
		return head
	}
	x := m.put(api.ReCat, nil, head, tail)
	x.rest = tail
	if next, _ := m.split(tail); next == head {
		x.rest = m.behind(tail)
	}
	return x
}

// behind returns what stands behind the equal heads at the beginning of x.
func (m *store) behind(x *node) *node {
	if x.kind == api.ReCat {
		return x.rest
	}
	return m.eps
}

// split returns the head and the tail of a concatenation; any other expression is its own head.
func (m *store) split(x *node) (head, tail *node) {
	if x.kind == api.ReCat {
		return x.kids[0], x.kids[1]
	}
	return x, m.eps
}

// not returns the complement of x.
func (m *store) not(x *node) *node {
	if x.kind == api.ReNot {
		return x.kids[0]
	}
	return m.put(api.ReNot, nil, x)
}

// star returns any number of repetitions of x.
func (m *store) star(x *node) *node {
	switch {
	case x == m.none || x == m.eps:
		return m.eps
	case x.kind == api.ReStar:
		return x
	}
	return m.put(api.ReStar, nil, x)
}

// and returns the intersection of the parts.
func (m *store) and(parts []*node) *node {
	l := m.gather(api.ReAnd, parts, func(sets ...api.Set) api.Set {
		// The complement of the complements' union: to meet the sets one by one would visit the growing result for each of them.
		for i, s := range sets {
			sets[i] = charset.Not(s)
		}
		return charset.Not(charset.Union(sets...))
	})
	return m.join(api.ReAnd, m.all, m.none, l)
}

// alt returns the union of the parts. Concatenations with the same tail become one: else a star of an ambiguous expression would have a derivative for each set of its derivatives.
func (m *store) alt(parts []*node) *node {
	l := m.gather(api.ReAlt, parts, charset.Union)
	merged := make([]*node, 0, len(l))
	for from := 0; from < len(l); {
		_, tail := m.split(l[from])
		to := from + 1
		for ; to < len(l) && tail != m.eps && m.hasTail(l[to], tail); to++ {
		}
		merged = append(merged, m.factor(l[from:to], tail))
		from = to
	}
	if len(merged) < len(l) {
		return m.alt(merged)
	}
	return m.join(api.ReAlt, m.none, m.all, l)
}

// hasTail reports whether x is a concatenation with the given tail.
func (m *store) hasTail(x, tail *node) bool {
	_, is := m.split(x)
	return is == tail
}

// factor returns the union of the concatenations l, which have the given tail.
func (m *store) factor(l []*node, tail *node) *node {
	if len(l) == 1 {
		return l[0]
	}
	var heads []*node
	for _, x := range l {
		head, _ := m.split(x)
		heads = append(heads, head)
	}
	return m.cat(m.alt(heads), tail)
}

// gather returns the parts in order and without duplicates, where those of the given kind are replaced by their kids, and the sets by what merge makes of them.
func (m *store) gather(kind api.ReKind, parts []*node, merge func(sets ...api.Set) api.Set) []*node {
	l := make([]*node, 0, len(parts))
	var sets []*node
	add := func(x *node) {
		if x.kind == api.ReSet {
			sets = append(sets, x)
		} else {
			l = append(l, x)
		}
	}
	for _, x := range parts {
		if x.kind != kind {
			add(x)
			continue
		}
		for _, kid := range x.kids {
			add(kid)
		}
	}
	l = append(l, m.merged(sets, merge)...)
	slices.SortFunc(l, m.compare)
	return slices.Compact(l)
}

// merged returns the set that merge makes of the sets, or nothing if there are none.
func (m *store) merged(sets []*node, merge func(sets ...api.Set) api.Set) []*node {
	if len(sets) < 2 {
		return sets
	}
	var l []api.Set
	for _, x := range sets {
		l = append(l, x.set)
	}
	return []*node{m.set(merge(l...))}
}

// compare orders nodes by their tails, so that equal ones are neighbours, and then by their numbers.
func (m *store) compare(a, b *node) int {
	_, x := m.split(a)
	_, y := m.split(b)
	return cmp.Or(cmp.Compare(x.number, y.number), cmp.Compare(a.number, b.number))
}

// join returns the expression of the given kind with the kids l, which are in order, and which it may change and keep: ruling if it is among them, and otherwise without neutral, which stands for no kids at all.
func (m *store) join(kind api.ReKind, neutral, ruling *node, l []*node) *node {
	if slices.Contains(l, ruling) {
		return ruling
	}
	switch l = slices.DeleteFunc(l, func(x *node) bool { return x == neutral }); len(l) {
	case 0:
		return neutral
	case 1:
		return l[0]
	}
	return m.put(kind, nil, l...)
}
