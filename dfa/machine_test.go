package dfa_test

import (
	"math"
	"slices"

	"arborist/api"
)

// bounds are numbers of the alphabet where something may change: its ends, letters, surrogates and their neighbours, and runes of all lengths.
func bounds() []rune {
	return []rune{0, 'a', 'b', 'c', 0x7f, 0x80, 0xd7ff, 0xd800, 0xdfff, 0xe000, 0xfffd, 0x10000, maxRune - 1, maxRune}
}

// chance is a valid DFA that is put together by chance. Some of its states can't be reached, and from some none that accepts can be.
func chance(next func(most int) int) api.Dfa {
	n := 1 + next(7)
	outs := 1 + next(3)
	var d api.Dfa
	for range n {
		x := state(next(outs+1) - 1)
		if next(4) == 0 {
			x.Out = -1
		}
		at := rune(0)
		for _, c := range bounds() {
			if c < at || next(3) == 0 {
				continue
			}
			a := arc(c, c, next(n))
			if next(2) == 0 {
				a.Hi = min(maxRune, c+rune(next(3)))
			} else if next(3) == 0 {
				a.Hi = bounds()[next(len(bounds()))]
			}
			if last := len(x.Arcs) - 1; a.Hi < a.Lo || last >= 0 && x.Arcs[last].Hi+1 == a.Lo && x.Arcs[last].To == a.To {
				continue
			}
			x.Arcs = append(x.Arcs, a)
			at = a.Hi + 1
		}
		d.States = append(d.States, x)
	}
	return d
}

// chances are n valid DFAs.
func chances(n int) []api.Dfa {
	next := numbers(3)
	l := special()
	for len(l) < n {
		l = append(l, chance(next))
	}
	return l
}

// special are valid DFAs at the edges of what a DFA can be.
func special() []api.Dfa {
	long := machine(slices.Repeat([]api.DfaState{state(-1)}, api.MaxDfa)...)
	for i := range api.MaxDfa - 1 {
		long.States[i].Arcs = []api.DfaArc{arc('a', 'a', i+1)}
	}
	loop := machine(slices.Clone(long.States)...)
	long.States[api.MaxDfa-1].Out = 0
	loop.States[0].Out = 0
	loop.States[api.MaxDfa-1].Arcs = []api.DfaArc{arc('a', 'a', 0)}
	return []api.Dfa{
		machine(state(-1)), machine(state(0)), machine(state(math.MaxInt)), long, loop,
		machine(state(-1, arc(0, maxRune, 0))), machine(state(0, arc(0, maxRune, 0))), machine(state(-1, arc(maxRune, maxRune, 1)), state(7)),
		machine(state(-1, arc(0xd800, 0xdfff, 1)), state(0)), machine(state(-1, arc(0xd7ff, 0xe000, 1)), state(0)), machine(state(-1, arc(0xd800, 0xe000, 1)), state(0)),
		machine(state(0, arc('a', 'a', 1), arc('b', 'b', 0)), state(0, arc('a', 'b', 0))), machine(state(0), state(0), state(1, arc('a', 'a', 0))),
		machine(slices.Repeat([]api.DfaState{state(-1)}, api.MaxDfa)...), machine(slices.Repeat([]api.DfaState{state(0, arc('a', 'a', 5))}, api.MaxDfa)...),
	}
}

// wrong are DFAs that are not valid.
func wrong() []api.Dfa {
	one := func(l ...api.DfaArc) api.Dfa { return machine(state(0, l...), state(1)) }
	return []api.Dfa{
		{}, {States: []api.DfaState{}}, machine(slices.Repeat([]api.DfaState{state(0)}, api.MaxDfa+1)...),
		machine(state(-2)), machine(state(0), state(math.MinInt)),
		one(arc('a', 'a', 2)), one(arc('a', 'a', -1)), one(arc('a', 'a', math.MaxInt)), one(arc('a', 'a', math.MinInt)), one(arc('a', 'b', 1), arc('c', 'c', 2)),
		one(arc('b', 'a', 0)), one(arc(-1, 'a', 0)), one(arc('a', maxRune+1, 0)), one(arc(math.MinInt32, math.MaxInt32, 0)), one(arc(maxRune+1, maxRune+1, 0)), one(arc(-1, -1, 0)), one(arc(math.MaxInt32, math.MinInt32, 0)),
		one(arc('a', 'c', 0), arc('c', 'd', 1)), one(arc('a', 'c', 0), arc('b', 'b', 1)), one(arc('b', 'b', 0), arc('a', 'a', 1)), one(arc('a', 'a', 0), arc('a', 'a', 0)),
		one(arc('a', 'a', 0), arc('b', 'b', 0)), one(arc('a', 'a', 0), arc('c', 'c', 1), arc('d', 'd', 1)), one(arc(0, 'a', 1), arc('b', maxRune, 1)), one(arc('a', maxRune, 0), arc(math.MinInt32, 0, 0)),
		machine(state(0), state(0), state(0, arc('a', 'a', 3))), machine(state(0), state(0, arc('a', 'a', 0), arc('b', 'b', 0))),
	}
}
