package dfa

import (
	"slices"

	"arborist/api"
)

// step is the last step of a text that leads to a state: the state ahead of it and its rune.
type step struct {
	from int
	c    rune
}

// Short returns the text with the fewest runes that leads to a state with the given output, the first one in lexicographic order, and whether there is one.
func Short(d api.Dfa, out int) (string, bool) {
	if out < 0 || !Right(d) {
		return "", false
	}
	steps := map[int]step{0: {from: -1}}
	// The states are in the order of their texts, by length and then rune by rune: what the first of them leads to comes first.
	queue := []int{0}
	for i := 0; i < len(queue); i++ {
		s := d.States[queue[i]]
		if s.Out == out {
			return spell(steps, queue[i]), true
		}
		for _, a := range s.Arcs {
			c, some := smallest(a)
			if _, reached := steps[a.To]; some && !reached {
				steps[a.To] = step{from: queue[i], c: c}
				queue = append(queue, a.To)
			}
		}
	}
	return "", false
}

// smallest returns the smallest rune of a that a text can contain, and whether there is one.
func smallest(a api.DfaArc) (rune, bool) {
	const firstSurrogate, lastSurrogate = 55296, 57343
	c := a.Lo
	if firstSurrogate <= c && c <= lastSurrogate {
		c = lastSurrogate + 1
	}
	return c, c <= a.Hi
}

// spell returns the text whose steps lead to the state.
func spell(steps map[int]step, state int) string {
	var l []rune
	for x := steps[state]; x.from >= 0; x = steps[x.from] {
		l = append(l, x.c)
	}
	slices.Reverse(l)
	return string(l)
}
