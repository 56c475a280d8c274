package dfa

import (
	"slices"

	"arborist/api"
)

// dead is the class of the states from which no accepting state can be reached.
const dead = -1

// least returns the minimal DFA equivalent to d, which is valid but may have more than MaxDfa states and arcs that touch.
func least(d api.Dfa) api.Dfa {
	p := outputs(d)
	for len(p.waiting) > 0 {
		p.refine(p.next())
	}
	return quotient(d, p)
}

// quotient returns the DFA whose states are the classes of p that can be reached, in breadth-first order.
func quotient(d api.Dfa, p *partition) api.Dfa {
	if p.class[0] == dead {
		return api.Dfa{States: []api.DfaState{{Out: -1}}}
	}
	numbers := slices.Repeat([]int{-1}, len(p.members))
	numbers[p.class[0]] = 0
	// members are a state of each class, in the order of the numbers.
	members := []int{0}
	var q api.Dfa
	for i := 0; i < len(members); i++ {
		s := api.DfaState{Out: d.States[members[i]].Out}
		for _, a := range d.States[members[i]].Arcs {
			c := p.class[a.To]
			if c == dead {
				continue
			}
			if numbers[c] < 0 {
				numbers[c] = len(members)
				members = append(members, a.To)
			}
			s.Arcs = join(s.Arcs, api.DfaArc{Lo: a.Lo, Hi: a.Hi, To: numbers[c]})
		}
		q.States = append(q.States, s)
	}
	return q
}

// join puts the arc a behind the arcs l.
func join(l []api.DfaArc, a api.DfaArc) []api.DfaArc {
	if last := len(l) - 1; last >= 0 && touch(l[last], a) {
		l[last].Hi = a.Hi
		return l
	}
	return append(l, a)
}
