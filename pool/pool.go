// Package pool keeps regular expressions, each once: equal ones are the same node. It builds them in the normal forms of layer 4, but for concatenations, which its users put together.
package pool

import (
	"slices"
	"strconv"

	"arborist/api"
)

// Node is an expression of a pool. A ReCat has two Kids, its head and its tail, and the Kids of a ReAlt and of a ReAnd are without duplicates in the order of the pool, unless the node is Raw.
type Node struct {
	Number int
	Kind   api.ReKind
	Set    api.Set
	Kids   []*Node
	// Raw marks an expression that is kept as it was written, with all its Kids in their order.
	Raw bool
	// Empty tells whether the expression matches the empty text.
	Empty bool
	// by holds the derivatives that have been worked out.
	by map[rune]*Node
}

// Pool holds expressions. It finds them by their text form, in which Kids stand as their numbers.
type Pool struct {
	// None, Eps and All stand for nothing, for the empty text and for every text.
	None, Eps, All *Node
	// Sets are the different sets of the expressions.
	Sets []api.Set
	// Size is the number of nodes, of their Kids and of the ranges of their Sets.
	Size  int
	known map[string]*Node
	text  []byte
}

// New returns a pool of None, Eps and All.
func New() *Pool {
	p := &Pool{known: map[string]*Node{}}
	p.None = p.Put(api.ReNone, nil)
	p.Eps = p.Put(api.ReEps, nil)
	p.All = p.Put(api.ReNot, nil, p.None)
	return p
}

// Put returns the node of the given kind, set and kids, which must be in normal form. It keeps set and kids.
func (p *Pool) Put(kind api.ReKind, set api.Set, kids ...*Node) *Node {
	return p.find(Node{Kind: kind, Set: set, Kids: kids})
}

// PutRaw returns the node that keeps the expression of the given kind and kids as it is written. It keeps kids.
func (p *Pool) PutRaw(kind api.ReKind, kids ...*Node) *Node {
	return p.find(Node{Kind: kind, Kids: kids, Raw: true})
}

// find returns the node that is written as x is.
func (p *Pool) find(x Node) *Node {
	p.text = strconv.AppendInt(p.text[:0], int64(x.Kind), 10)
	if x.Raw {
		p.text = append(p.text, '!')
	}
	for _, q := range x.Set {
		p.text = strconv.AppendInt(append(p.text, ' '), int64(q.Lo), 10)
		p.text = strconv.AppendInt(append(p.text, '-'), int64(q.Hi), 10)
	}
	for _, kid := range x.Kids {
		p.text = strconv.AppendInt(append(p.text, ' '), int64(kid.Number), 10)
	}
	if y, known := p.known[string(p.text)]; known {
		return y
	}
	x.Number, x.Empty = len(p.known), isEmpty(x.Kind, x.Kids)
	p.known[string(p.text)] = &x
	p.Size += 1 + len(x.Set) + len(x.Kids)
	if x.Kind == api.ReSet {
		p.Sets = append(p.Sets, x.Set)
	}
	return &x
}

// isEmpty reports whether the expression with this kind and these kids matches the empty text.
func isEmpty(kind api.ReKind, kids []*Node) bool {
	switch kind {
	case api.ReEps, api.ReStar:
		return true
	case api.ReAlt:
		return slices.ContainsFunc(kids, func(x *Node) bool { return x.Empty })
	case api.ReCat, api.ReAnd:
		return !slices.ContainsFunc(kids, func(x *Node) bool { return !x.Empty })
	case api.ReNot:
		return !kids[0].Empty
	}
	return false
}

// Has reports whether the set of x contains c.
func (x *Node) Has(c rune) bool {
	_, in := slices.BinarySearchFunc(x.Set, c, func(q api.Range, c rune) int {
		switch {
		case q.Hi < c:
			return -1
		case q.Lo > c:
			return 1
		}
		return 0
	})
	return in
}

// By returns the derivative of x by c, which is worked out by derive if it has not been before.
func (x *Node) By(c rune, derive func(x *Node, c rune) *Node) *Node {
	if d, known := x.by[c]; known {
		return d
	}
	d := derive(x, c)
	if x.by == nil {
		x.by = map[rune]*Node{}
	}
	x.by[c] = d
	return d
}

// OfSet returns the expression that matches each rune of s. It keeps s.
func (p *Pool) OfSet(s api.Set) *Node {
	if len(s) == 0 {
		return p.None
	}
	return p.Put(api.ReSet, s)
}

// Not returns the complement of x.
func (p *Pool) Not(x *Node) *Node {
	if x.Kind == api.ReNot {
		return x.Kids[0]
	}
	return p.Put(api.ReNot, nil, x)
}

// Star returns any number of repetitions of x.
func (p *Pool) Star(x *Node) *Node {
	switch {
	case x == p.None || x == p.Eps:
		return p.Eps
	case x.Kind == api.ReStar:
		return x
	}
	return p.Put(api.ReStar, nil, x)
}

// Split returns the head and the tail of a concatenation; any other expression is its own head.
func (p *Pool) Split(x *Node) (head, tail *Node) {
	if x.Kind == api.ReCat && !x.Raw {
		return x.Kids[0], x.Kids[1]
	}
	return x, p.Eps
}
