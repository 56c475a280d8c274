package dfa_test

import (
	"fmt"
	"math"
	"slices"
	"testing"

	"arborist/api"
	"arborist/dfa"
)

// Promise P701: no argument makes a call panic, and beside an error or a false there is nothing else.
func TestP701AllArguments(t *testing.T) {
	for _, r := range append(wild(), tame()...) {
		for _, l := range [][]api.Re{{r}, {r, one('a')}, {one('b'), r, r}} {
			if d, e := dfa.Of(l...); e != api.OK && d.States != nil || e == api.OK && !dfa.Right(d) {
				t.Errorf("Of(%s) = %s, %d", show(l), show(d), e)
			}
		}
	}
	for _, d := range append(wrong(), special()...) {
		right := dfa.Right(d)
		dfa.Least(d)
		for _, e := range append(wrong(), special()...) {
			if dfa.Same(d, e) && !right {
				t.Errorf("Same(%s, %s)", show(d), show(e))
			}
		}
		for _, n := range []int{math.MinInt, -2, -1, 0, 1, 2, 5, math.MaxInt} {
			if s, found := dfa.Short(d, n); s != "" && !found {
				t.Errorf("Short(%s, %d) = %q, %v", show(d), n, s, found)
			}
			for _, s := range texts() {
				if out, end, look := dfa.Run(d, s, n); out < -1 || end < 0 || end > len(s) || look < 0 || end+look > len(s)+1 {
					t.Errorf("Run(%s, %q, %d) = %d, %d, %d", show(d), s, n, out, end, look)
				}
			}
		}
	}
}

// hollow is r with empty lists instead of nil.
func hollow(r api.Re) api.Re {
	h := api.Re{Kind: r.Kind, Set: append(api.Set{}, r.Set...), Kids: []api.Re{}}
	for _, kid := range r.Kids {
		h.Kids = append(h.Kids, hollow(kid))
	}
	return h
}

// Promise P701: nil and empty lists are equivalent.
func TestP701Empty(t *testing.T) {
	for _, l := range lists() {
		h := []api.Re{}
		for _, r := range l {
			h = append(h, hollow(r))
		}
		mustEqual(t, "Of "+show(l), mustBe(t, h...), mustBe(t, l...))
	}
	d := machine(state(0, arc('a', 'a', 1)), state(1))
	e := machine(state(0, arc('a', 'a', 1)), api.DfaState{Out: 1, Arcs: []api.DfaArc{}})
	if !dfa.Right(e) || !dfa.Same(d, e) || !equal(dfa.Least(e), d) || dfa.Right(api.Dfa{States: []api.DfaState{}}) {
		t.Error("an empty list of arcs")
	}
	if out, end, look := dfa.Run(e, "ab", 0); out != 1 || end != 1 || look != 0 {
		t.Error(out, end, look)
	}
}

// spare is r with lists that have capacity behind their lengths, filled with what is no part of an expression.
func spare(r api.Re) api.Re {
	c := api.Re{Kind: r.Kind}
	c.Set = append(slices.Grow(c.Set, len(r.Set)+1), r.Set...)
	c.Set[:cap(c.Set)][len(c.Set)] = api.Range{Lo: -7, Hi: -7}
	c.Kids = slices.Grow(c.Kids, len(r.Kids)+1)
	for _, kid := range r.Kids {
		c.Kids = append(c.Kids, spare(kid))
	}
	c.Kids[:cap(c.Kids)][len(c.Kids)] = leaf(-7)
	return c
}

// spareMachine is d with lists that have capacity behind their lengths, filled with what is no part of a DFA.
func spareMachine(d api.Dfa) api.Dfa {
	var c api.Dfa
	c.States = slices.Grow(c.States, len(d.States)+1)
	for _, s := range d.States {
		x := state(s.Out)
		x.Arcs = append(slices.Grow(x.Arcs, len(s.Arcs)+1), s.Arcs...)
		x.Arcs[:cap(x.Arcs)][len(x.Arcs)] = arc(-7, -7, -7)
		c.States = append(c.States, x)
	}
	c.States[:cap(c.States)][len(c.States)] = state(-7)
	return c
}

// full are texts for all that the lists of r hold, with what is behind their lengths.
func full(r api.Re) []string {
	l := []string{fmt.Sprint(r.Kind, r.Set[:cap(r.Set)])}
	for _, kid := range r.Kids[:cap(r.Kids)] {
		l = append(l, full(kid)...)
	}
	return l
}

// fullMachine are texts for all that the lists of d hold, with what is behind their lengths.
func fullMachine(d api.Dfa) []string {
	var l []string
	for _, s := range d.States[:cap(d.States)] {
		l = append(l, fmt.Sprint(s.Out, s.Arcs[:cap(s.Arcs)]))
	}
	return l
}

// Promise P701: arguments are not changed, nor what is behind their lengths.
func TestP701Pure(t *testing.T) {
	for _, list := range append(lists(), hard()...) {
		var l []api.Re
		for _, r := range list {
			l = append(l, spare(r))
		}
		before := fmt.Sprint(len(l))
		for _, r := range l {
			before += fmt.Sprint(full(r))
		}
		dfa.Of(l...)
		after := fmt.Sprint(len(l))
		for _, r := range l {
			after += fmt.Sprint(full(r))
		}
		if before != after {
			t.Fatalf("Of(%s) changes its arguments", show(list))
		}
	}
	for _, x := range append(chances(300), wrong()...) {
		d := spareMachine(x)
		before := fullMachine(d)
		dfa.Right(d)
		dfa.Least(d)
		dfa.Same(d, d)
		dfa.Short(d, 0)
		dfa.Run(d, "abc", 0)
		if !slices.Equal(before, fullMachine(d)) {
			t.Fatalf("%s is changed", show(x))
		}
	}
}

// memory has an entry for each place in the lists that were marked.
type memory map[any]bool

// mark enters all places of the lists of d, with those behind their lengths. It tells if one of them has been entered before.
func (m memory) mark(t *testing.T, d api.Dfa, call string) {
	t.Helper()
	enter := func(place any) {
		if m[place] {
			t.Fatalf("%s: lists share memory", call)
		}
		m[place] = true
	}
	states := d.States[:cap(d.States)]
	for i := range states {
		enter(&states[i])
		arcs := states[i].Arcs[:cap(states[i].Arcs)]
		for j := range arcs {
			enter(&arcs[j])
		}
	}
}

// Promise P701: answers share no memory with arguments, with each other and within themselves.
func TestP701Memory(t *testing.T) {
	for _, l := range lists() {
		m := memory{}
		m.mark(t, mustBe(t, l...), "Of")
		m.mark(t, mustBe(t, l...), "Of again")
	}
	for _, x := range chances(300) {
		d := spareMachine(x)
		m := memory{}
		m.mark(t, d, "an argument")
		m.mark(t, dfa.Least(d), "Least")
		m.mark(t, dfa.Least(d), "Least again")
	}
}

// Promise P701: the same arguments give the same answers, whatever was called between.
func TestP701Same(t *testing.T) {
	all := lists()
	var first []api.Dfa
	for _, l := range all {
		first = append(first, mustBe(t, l...))
	}
	for i, l := range slices.Backward(all) {
		mustEqual(t, "Of "+show(l)+" again", mustBe(t, l...), first[i])
	}
}
