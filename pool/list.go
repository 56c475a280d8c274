package pool

import (
	"cmp"
	"slices"

	"arborist/api"
	"arborist/charset"
)

// And returns the intersection of the parts.
func (p *Pool) And(parts []*Node) *Node {
	l := p.gather(api.ReAnd, parts, func(sets ...api.Set) api.Set {
		// The complement of the complements' union: to meet the sets one by one would visit the growing result for each of them.
		for i, s := range sets {
			sets[i] = charset.Not(s)
		}
		return charset.Not(charset.Union(sets...))
	})
	return p.join(api.ReAnd, p.All, p.None, l)
}

// Alt returns the union of the parts.
func (p *Pool) Alt(parts []*Node) *Node { return p.Join(p.Gather(parts)) }

// Gather returns the parts of a union in the order of the pool, in which concatenations with the same tail are neighbours. They are flat, without duplicates, and with one set at most.
func (p *Pool) Gather(parts []*Node) []*Node {
	return p.gather(api.ReAlt, parts, charset.Union)
}

// Join returns the union of the parts, which Gather answered. It may change and keep the list.
func (p *Pool) Join(parts []*Node) *Node { return p.join(api.ReAlt, p.None, p.All, parts) }

// gather returns the parts in order and without duplicates, where those of the given kind are replaced by their Kids, recursively, and the sets by what merge makes of them.
func (p *Pool) gather(kind api.ReKind, parts []*Node, merge func(sets ...api.Set) api.Set) []*Node {
	l := make([]*Node, 0, len(parts))
	var sets []*Node
	var add func(parts []*Node)
	add = func(parts []*Node) {
		for _, x := range parts {
			switch x.Kind {
			case kind:
				add(x.Kids)
			case api.ReSet:
				sets = append(sets, x)
			default:
				l = append(l, x)
			}
		}
	}
	add(parts)
	l = append(l, p.merged(sets, merge)...)
	slices.SortFunc(l, p.compare)
	return slices.Compact(l)
}

// merged returns the set that merge makes of the sets, or nothing if there are none.
func (p *Pool) merged(sets []*Node, merge func(sets ...api.Set) api.Set) []*Node {
	if len(sets) < 2 {
		return sets
	}
	var l []api.Set
	for _, x := range sets {
		l = append(l, x.Set)
	}
	return []*Node{p.OfSet(merge(l...))}
}

// compare orders nodes by their tails, so that equal ones are neighbours, and then by their numbers.
func (p *Pool) compare(a, b *Node) int {
	_, x := p.Split(a)
	_, y := p.Split(b)
	return cmp.Or(cmp.Compare(x.Number, y.Number), cmp.Compare(a.Number, b.Number))
}

// join returns the expression of the given kind with the kids l, which are in order, and which it may change and keep: ruling if it is among them, and otherwise without neutral, which stands for no kids at all.
func (p *Pool) join(kind api.ReKind, neutral, ruling *Node, l []*Node) *Node {
	if slices.Contains(l, ruling) {
		return ruling
	}
	switch l = slices.DeleteFunc(l, func(x *Node) bool { return x == neutral }); len(l) {
	case 0:
		return neutral
	case 1:
		return l[0]
	}
	return p.Put(kind, nil, l...)
}
