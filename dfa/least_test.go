package dfa_test

import (
	"math"
	"slices"
	"testing"

	"arborist/api"
	"arborist/dfa"
)

// Promise P703: Right tells which DFAs are valid.
func TestP703Right(t *testing.T) {
	for _, d := range chances(500) {
		if !dfa.Right(d) {
			t.Errorf("%s is valid", show(d))
		}
	}
	for _, d := range wrong() {
		if dfa.Right(d) {
			t.Errorf("%s is not valid", show(d))
		}
	}
	right := machine(state(-1, arc(0, 'a', 1), arc('b', 'b', 0), arc('d', 'e', 0), arc('f', maxRune, 1)), state(math.MaxInt))
	if !dfa.Right(right) {
		t.Errorf("%s is valid", show(right))
	}
}

// isRightArcs is the second description of the arcs of a valid DFA of n states.
func isRightArcs(l []api.DfaArc, n int) bool {
	for i, a := range l {
		if a.Lo < 0 || a.Lo > a.Hi || a.Hi > maxRune || a.To < 0 || a.To >= n {
			return false
		}
		if i > 0 && (a.Lo <= l[i-1].Hi || a.Lo == l[i-1].Hi+1 && a.To == l[i-1].To) {
			return false
		}
	}
	return true
}

// Promise P703: Right holds all pairs of arcs with bounds at the ends of the alphabet to the form.
func TestP703AllArcs(t *testing.T) {
	var l []api.DfaArc
	runes := []rune{math.MinInt32, -1, 0, 1, 2, 3, maxRune - 1, maxRune, maxRune + 1, math.MaxInt32}
	for _, lo := range runes {
		for _, hi := range runes {
			for to := -1; to <= 2; to++ {
				l = append(l, arc(lo, hi, to))
			}
		}
	}
	for _, a := range l {
		for _, b := range l {
			d := machine(state(0), state(0, a, b))
			if got, want := dfa.Right(d), isRightArcs(d.States[1].Arcs, 2); got != want {
				t.Fatalf("Right(%v) = %v", d, got)
			}
		}
	}
}

// Promise P703: Least answers the minimal DFA.
func TestP703Least(t *testing.T) {
	for _, d := range chances(2000) {
		// The rounds of the second description would take too long.
		if len(d.States) <= 100 {
			mustEqual(t, "Least "+show(d), dfa.Least(d), minimal(d))
		}
	}
	for _, x := range []struct {
		name    string
		d, want api.Dfa
	}{
		{"a state that can't be reached", machine(state(0), state(1, arc('a', 'a', 0))), machine(state(0))},
		{"a state from which none that accepts can be reached", machine(state(0, arc('a', 'a', 1), arc('b', 'b', 0)), state(-1, arc(0, maxRune, 1))), machine(state(0, arc('b', 'b', 0)))},
		{"a first state of that kind", machine(state(-1, arc('a', 'a', 1)), state(-1, arc('a', 'a', 0)), state(0)), machine(state(-1))},
		{"arcs that come to touch", machine(state(0, arc('a', 'a', 1), arc('b', 'b', 2), arc('d', 'd', 1)), state(1), state(1)), machine(state(0, arc('a', 'b', 1), arc('d', 'd', 1)), state(1))},
		{"states in another order", machine(state(0, arc('a', 'a', 2), arc('b', 'b', 1)), state(1), state(2)), machine(state(0, arc('a', 'a', 1), arc('b', 'b', 2)), state(2), state(1))},
		{"two circles", machine(state(0, arc('a', 'a', 1)), state(1, arc('a', 'a', 2)), state(0, arc('a', 'a', 3)), state(1, arc('a', 'a', 0))), machine(state(0, arc('a', 'a', 1)), state(1, arc('a', 'a', 0)))},
		{"a large output", machine(state(math.MaxInt, arc('a', 'a', 1)), state(math.MaxInt, arc('a', 'a', 0))), machine(state(math.MaxInt, arc('a', 'a', 0)))},
	} {
		mustEqual(t, x.name, dfa.Least(x.d), x.want)
	}
}

// Promise P703: Least answers a DFA without states for one that is not valid.
func TestP703LeastWrong(t *testing.T) {
	for _, d := range wrong() {
		if got := dfa.Least(d); len(got.States) != 0 {
			t.Errorf("Least(%s) has %d states", show(d), len(got.States))
		}
	}
}

// doubled is a DFA equivalent to d with each state twice, in another order, with the arcs by turns to the one and the other, and cut in two where they are not of one rune.
func doubled(d api.Dfa) api.Dfa {
	n := len(d.States)
	twice := make([]api.DfaState, 2*n)
	// The first state stays the first one.
	place := func(s, copy int) int { return (2*n - 2*s - copy) % (2 * n) }
	for s, x := range d.States {
		for copy := range 2 {
			y := state(x.Out)
			for i, a := range x.Arcs {
				middle := (a.Lo + a.Hi) / 2
				y.Arcs = append(y.Arcs, arc(a.Lo, middle, place(a.To, (copy+i)%2)))
				if middle < a.Hi {
					y.Arcs = append(y.Arcs, arc(middle+1, a.Hi, place(a.To, (copy+i+1)%2)))
				}
			}
			twice[place(s, copy)] = y
		}
	}
	return machine(twice...)
}

// Promise P703: a DFA has the same minimal DFA as another one that is equivalent.
func TestP703Doubled(t *testing.T) {
	for _, d := range chances(1000) {
		if 2*len(d.States) > api.MaxDfa {
			continue
		}
		e := doubled(d)
		if !dfa.Right(e) {
			continue
		}
		mustEqual(t, "Least "+show(d), dfa.Least(e), dfa.Least(d))
		if !dfa.Same(d, e) || !dfa.Same(e, d) {
			t.Errorf("Same(%s, %s)", show(d), show(e))
		}
	}
}

// same is the second description of Same for valid DFAs: it goes through the pairs of states to which the same sequences lead, with -1 where there is no arc.
func same(a, b api.Dfa) bool {
	runes := cuts(a, b)
	out := func(d api.Dfa, s int) int {
		if s < 0 {
			return -1
		}
		return d.States[s].Out
	}
	to := func(d api.Dfa, s int, c rune) int {
		if s < 0 {
			return -1
		}
		return next(d, s, c)
	}
	known := map[[2]int]bool{{0, 0}: true}
	queue := [][2]int{{0, 0}}
	for i := 0; i < len(queue); i++ {
		x := queue[i]
		if out(a, x[0]) != out(b, x[1]) {
			return false
		}
		for _, c := range runes {
			y := [2]int{to(a, x[0], c), to(b, x[1], c)}
			if !known[y] {
				known[y] = true
				queue = append(queue, y)
			}
		}
	}
	return true
}

// Promise P703: Same tells which valid DFAs are equivalent.
func TestP703Same(t *testing.T) {
	var l []api.Dfa
	for _, d := range chances(220) {
		if len(d.States) < 100 {
			l = append(l, d)
		}
	}
	for _, a := range l {
		for _, b := range l {
			if got, want := dfa.Same(a, b), same(a, b); got != want {
				t.Errorf("Same(%s, %s) = %v", show(a), show(b), got)
			}
		}
	}
	for _, x := range wrong() {
		if dfa.Same(x, x) || dfa.Same(x, l[0]) || dfa.Same(l[0], x) {
			t.Errorf("Same with %s", show(x))
		}
	}
}

// Promise P703: a change of one output or of one arc is told.
func TestP703Changed(t *testing.T) {
	for _, d := range chances(300) {
		if len(d.States) > 100 {
			continue
		}
		least := dfa.Least(d)
		for s := range least.States {
			e := machine(slices.Clone(least.States)...)
			e.States[s].Out++
			if dfa.Same(d, e) {
				t.Errorf("Same(%s, %s)", show(d), show(e))
			}
			for i := range least.States[s].Arcs {
				e := machine(slices.Clone(least.States)...)
				e.States[s].Arcs = slices.Delete(slices.Clone(e.States[s].Arcs), i, i+1)
				if dfa.Same(d, e) {
					t.Errorf("Same(%s, %s)", show(d), show(e))
				}
			}
		}
	}
}

// Promise P703: the largest DFAs take no more than moments.
func TestP703Large(t *testing.T) {
	n := api.MaxDfa
	// States that are told apart one by one, from the last to the first.
	long := special()[3]
	mustEqual(t, "a long way", dfa.Least(long), long)
	// One circle, and all states are the same but for those of one output.
	loop := special()[4]
	mustEqual(t, "a circle", dfa.Least(loop), loop)
	loop.States[n/2].Out = 0
	if got := dfa.Least(loop); len(got.States) != n/2 {
		t.Errorf("half a circle has %d states", len(got.States))
	}
	// Very many arcs from each state, to all states.
	var wide, many api.Dfa
	for s := range n {
		x, y := state(s%2), state(s%3-1)
		for i := range 200 {
			x.Arcs = append(x.Arcs, arc(rune(2*i), rune(2*i), (s+i)%n))
			y.Arcs = append(y.Arcs, arc(rune(2*i), rune(2*i), (7*s+i*i)%n))
		}
		wide.States, many.States = append(wide.States, x), append(many.States, y)
	}
	if got := dfa.Least(wide); len(got.States) != 2 {
		t.Errorf("states of two kinds: %d", len(got.States))
	}
	if got := dfa.Least(many); !dfa.Same(got, many) || len(got.States) < 3 || len(got.States) > n {
		t.Errorf("states of many kinds: %d", len(got.States))
	}
}
