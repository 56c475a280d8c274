package dfa

import (
	"cmp"
	"slices"

	"arborist/api"
)

// edge is an arc as its target sees it: it comes from a state, on the runes from lo to hi.
type edge struct{ from, lo, hi int }

// sign is a state with the number of the set of runes on which it leads to the class that is looked at.
type sign struct{ state, number int }

// partition divides the states that are not dead into classes. As soon as no class waits, the states of each class lead to each class on the same runes.
type partition struct {
	// into holds the arcs to each state.
	into [][]edge
	// class is the class of each state, place its place among the members of that class.
	class, place []int
	members      [][]int
	// waiting are the classes with which the others have still to be compared; isWaiting is parallel to members.
	waiting   []int
	isWaiting []bool
}

// outputs returns the partition of the states of d by their outputs, with all classes waiting.
func outputs(d api.Dfa) *partition {
	n := len(d.States)
	p := &partition{into: make([][]edge, n), class: slices.Repeat([]int{dead}, n), place: make([]int, n)}
	for from, a := range arcs(d) {
		p.into[a.To] = append(p.into[a.To], edge{from: from, lo: int(a.Lo), hi: int(a.Hi)})
	}
	classes := map[int]int{}
	for _, s := range p.living(d) {
		out := d.States[s].Out
		c, known := classes[out]
		if !known {
			c = p.grow()
			classes[out] = c
			p.wait(c)
		}
		p.enter(s, c)
	}
	return p
}

// living returns the states of d from which an accepting state can be reached.
func (p *partition) living(d api.Dfa) []int {
	var l []int
	lives := make([]bool, len(d.States))
	add := func(s int) {
		if !lives[s] {
			lives[s] = true
			l = append(l, s)
		}
	}
	for s, x := range d.States {
		if x.Out >= 0 {
			add(s)
		}
	}
	for i := 0; i < len(l); i++ {
		for _, e := range p.into[l[i]] {
			add(e.from)
		}
	}
	return l
}

// grow adds a class without members and returns it.
func (p *partition) grow() int {
	p.members = append(p.members, nil)
	p.isWaiting = append(p.isWaiting, false)
	return len(p.members) - 1
}

// enter puts the state s, which is in no class, into the class c.
func (p *partition) enter(s, c int) {
	p.class[s], p.place[s] = c, len(p.members[c])
	p.members[c] = append(p.members[c], s)
}

// leave takes the state s out of its class.
func (p *partition) leave(s int) {
	l := p.members[p.class[s]]
	last := l[len(l)-1]
	l[p.place[s]], p.place[last] = last, p.place[s]
	p.members[p.class[s]] = l[:len(l)-1]
}

// wait lets the class c wait.
func (p *partition) wait(c int) {
	p.waiting = append(p.waiting, c)
	p.isWaiting[c] = true
}

// next takes a class out of those that wait.
func (p *partition) next() int {
	last := len(p.waiting) - 1
	c := p.waiting[last]
	p.waiting = p.waiting[:last]
	p.isWaiting[c] = false
	return c
}

// refine splits the classes whose states lead to the target on different runes.
func (p *partition) refine(target int) {
	l := p.signs(target)
	slices.SortFunc(l, func(a, b sign) int { return cmp.Compare(p.class[a.state], p.class[b.state]) })
classes:
	for len(l) > 0 {
		c, n := p.class[l[0].state], 1
		for n < len(l) && p.class[l[n].state] == c {
			n++
		}
		group := l[:n]
		l = l[n:]
		for _, x := range group {
			if x.number != group[0].number || n < len(p.members[c]) {
				p.split(c, group)
				continue classes
			}
		}
	}
}

// signs returns the states that lead to the class, with equal numbers where they do so on the same runes.
func (p *partition) signs(target int) []sign {
	var edges []edge
	for _, s := range p.members[target] {
		edges = append(edges, p.into[s]...)
	}
	var l []sign
	// A set of runes is found by the number of what it holds below its last range, and by that range.
	numbers := map[[3]int]int{}
	for _, e := range joined(edges) {
		if n := len(l); n == 0 || l[n-1].state != e.from {
			l = append(l, sign{state: e.from})
		}
		x := &l[len(l)-1]
		x.number = numberOf(numbers, [3]int{x.number, e.lo, e.hi})
	}
	return l
}

// joined returns the edges in the order of their states and runes, where those of one state that touch are one edge. It may change the list.
func joined(edges []edge) []edge {
	slices.SortFunc(edges, func(a, b edge) int { return cmp.Or(cmp.Compare(a.from, b.from), cmp.Compare(a.lo, b.lo)) })
	l := edges[:0]
	for _, e := range edges {
		if n := len(l); n > 0 && l[n-1].from == e.from && l[n-1].hi+1 == e.lo {
			l[n-1].hi = e.hi
		} else {
			l = append(l, e)
		}
	}
	return l
}

// numberOf returns the number of the key, from 1 on.
func numberOf(numbers map[[3]int]int, key [3]int) int {
	n, known := numbers[key]
	if !known {
		n = len(numbers) + 1
		numbers[key] = n
	}
	return n
}

// split moves those members of the class c that are in the group to new classes, one for each number. If the group is the whole class, those with its first number stay.
func (p *partition) split(c int, group []sign) {
	classes := map[[2]int]int{}
	if len(group) == len(p.members[c]) {
		classes[[2]int{c, group[0].number}] = c
	}
	parts := []int{c}
	for _, x := range group {
		key := [2]int{c, x.number}
		to, known := classes[key]
		if !known {
			to = p.grow()
			classes[key] = to
			parts = append(parts, to)
		}
		if to != c {
			p.leave(x.state)
			p.enter(x.state, to)
		}
	}
	p.waitFor(parts)
}

// waitFor lets the parts of a class that was split wait, of which the first one has its number. If the class itself does not wait, the others need not be compared with its largest part: what leads to it is what leads to the whole class and not to its other parts.
func (p *partition) waitFor(parts []int) {
	largest := parts[0]
	for _, c := range parts {
		if len(p.members[c]) > len(p.members[largest]) {
			largest = c
		}
	}
	whole := p.isWaiting[parts[0]]
	for _, c := range parts {
		if !p.isWaiting[c] && (whole || c != largest) {
			p.wait(c)
		}
	}
}
