package dfa_test

import (
	"fmt"
	"slices"
	"testing"

	"arborist/api"
	"arborist/charset"
	"arborist/deriv"
	"arborist/dfa"
	"arborist/regex"
)

// state is a state with the given output and arcs.
func state(out int, arcs ...api.DfaArc) api.DfaState { return api.DfaState{Out: out, Arcs: arcs} }

// arc is an arc to the state to on the runes from lo to hi.
func arc(lo, hi rune, to int) api.DfaArc { return api.DfaArc{Lo: lo, Hi: hi, To: to} }

// machine is a DFA of the states.
func machine(states ...api.DfaState) api.Dfa { return api.Dfa{States: states} }

// equal reports whether a and b have the same states.
func equal(a, b api.Dfa) bool {
	return slices.EqualFunc(a.States, b.States, func(x, y api.DfaState) bool { return x.Out == y.Out && slices.Equal(x.Arcs, y.Arcs) })
}

// mustEqual tells if a call does not answer the DFA that is wanted.
func mustEqual(t *testing.T, call string, got, want api.Dfa) {
	t.Helper()
	if !equal(got, want) {
		t.Fatalf("%s\nis   %s\nwant %s", call, show(got), show(want))
	}
}

// next is the state to which the state s of d leads on c, or -1.
func next(d api.Dfa, s int, c rune) int {
	for _, a := range d.States[s].Arcs {
		if a.Lo <= c && c <= a.Hi {
			return a.To
		}
	}
	return -1
}

// after is the state to which the word w leads, or -1.
func after(d api.Dfa, w []rune) int {
	s := 0
	for _, c := range w {
		if s >= 0 {
			s = next(d, s, c)
		}
	}
	return s
}

// output is the output with which d accepts w, or -1.
func output(d api.Dfa, w []rune) int {
	if s := after(d, w); s >= 0 {
		return d.States[s].Out
	}
	return -1
}

// cuts are the runes at which the behaviour of the DFAs can change, ascending, from 0 on.
func cuts(l ...api.Dfa) []rune {
	c := []rune{0}
	for _, d := range l {
		for _, s := range d.States {
			for _, a := range s.Arcs {
				c = append(c, a.Lo)
				if a.Hi < maxRune {
					c = append(c, a.Hi+1)
				}
			}
		}
	}
	slices.Sort(c)
	return slices.Compact(c)
}

// minimal is the second description of the minimal DFA: it tells the states of d apart by rounds, with the state -1 for all that have no way on, until a round finds nothing new.
func minimal(d api.Dfa) api.Dfa {
	runes := cuts(d)
	class := map[int]int{-1: -1}
	for s := range d.States {
		class[s] = d.States[s].Out
	}
	for count := 0; ; {
		known := map[string]int{}
		fresh := map[int]int{}
		for s := -1; s < len(d.States); s++ {
			key := []int{class[s]}
			for _, c := range runes {
				to := -1
				if s >= 0 {
					to = next(d, s, c)
				}
				key = append(key, class[to])
			}
			text := fmt.Sprint(key)
			if _, found := known[text]; !found {
				known[text] = len(known)
			}
			fresh[s] = known[text]
		}
		class = fresh
		if len(known) == count {
			return collapse(d, runes, class)
		}
		count = len(known)
	}
}

// collapse is the DFA whose states are the classes of those of d that are reached, without the class of the state -1, in breadth-first order.
func collapse(d api.Dfa, runes []rune, class map[int]int) api.Dfa {
	if class[0] == class[-1] {
		return machine(state(-1))
	}
	number := map[int]int{class[0]: 0}
	queue := []int{0}
	var q api.Dfa
	for i := 0; i < len(queue); i++ {
		x := state(d.States[queue[i]].Out)
		for j, c := range runes {
			to := next(d, queue[i], c)
			if class[to] == class[-1] {
				continue
			}
			if _, found := number[class[to]]; !found {
				number[class[to]] = len(queue)
				queue = append(queue, to)
			}
			hi := maxRune
			if j+1 < len(runes) {
				hi = runes[j+1] - 1
			}
			if n := len(x.Arcs); n > 0 && x.Arcs[n-1].Hi == c-1 && x.Arcs[n-1].To == number[class[to]] {
				x.Arcs[n-1].Hi = hi
			} else {
				x.Arcs = append(x.Arcs, arc(c, hi, number[class[to]]))
			}
		}
		q.States = append(q.States, x)
	}
	return q
}

// standard is the standard derivative of r by c, built as the chapter defines it.
func standard(r api.Re, c rune) api.Re {
	var l []api.Re
	switch r.Kind {
	case api.ReSet:
		if holds(r.Set, c) {
			return leaf(api.ReEps)
		}
	case api.ReCat:
		for i, kid := range r.Kids {
			l = append(l, regex.Cat(slices.Concat([]api.Re{standard(kid, c)}, r.Kids[i+1:])...))
			if !deriv.Empty(kid) {
				break
			}
		}
		return regex.Alt(l...)
	case api.ReAlt:
		return regex.Alt(standards(r.Kids, c)...)
	case api.ReAnd:
		return regex.And(standards(r.Kids, c)...)
	case api.ReNot:
		return regex.Not(standard(r.Kids[0], c))
	case api.ReStar:
		return regex.Cat(standard(r.Kids[0], c), r)
	}
	return leaf(api.ReNone)
}

// standards are the standard derivatives of the expressions of l by c.
func standards(l []api.Re, c rune) []api.Re {
	var d []api.Re
	for _, r := range l {
		d = append(d, standard(r, c))
	}
	return d
}

// isNone reports whether all expressions of l are ReNone.
func isNone(l []api.Re) bool {
	return !slices.ContainsFunc(l, func(r api.Re) bool { return r.Kind != api.ReNone })
}

// leads is the second description of the lists to which l leads: a DFA with a state for each of them, if they are at most the given number, and otherwise one without states. Lists that match nothing are left out, but for l itself.
func leads(l []api.Re, most int) api.Dfa {
	var sets []api.Set
	for _, r := range l {
		sets = append(sets, deriv.Parts(r)...)
	}
	classes := charset.Parts(sets...)
	known := map[string]int{fmt.Sprint(l): 0}
	queue := [][]api.Re{l}
	var d api.Dfa
	for i := 0; i < len(queue); i++ {
		if len(queue) > most {
			return api.Dfa{}
		}
		x := state(slices.IndexFunc(queue[i], deriv.Empty))
		for _, class := range classes {
			to := standards(queue[i], class[0].Lo)
			if isNone(to) {
				continue
			}
			key := fmt.Sprint(to)
			if _, found := known[key]; !found {
				known[key] = len(queue)
				queue = append(queue, to)
			}
			for _, q := range class {
				x.Arcs = append(x.Arcs, arc(q.Lo, q.Hi, known[key]))
			}
		}
		d.States = append(d.States, x)
	}
	return d
}

// mustBe is the DFA of l. It tells if there is an error.
func mustBe(t *testing.T, l ...api.Re) api.Dfa {
	t.Helper()
	d, e := dfa.Of(l...)
	if e != api.OK {
		t.Fatalf("Of(%s): error %d", show(l), e)
	}
	return d
}
