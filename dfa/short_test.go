package dfa_test

import (
	"math"
	"slices"
	"strings"
	"testing"

	"arborist/api"
	"arborist/dfa"
	"arborist/regex"
)

// mustSpell tells if Short does not answer what is wanted.
func mustSpell(t *testing.T, d api.Dfa, out int, want string, found bool) {
	t.Helper()
	if s, ok := dfa.Short(d, out); s != want || ok != found {
		t.Errorf("Short(%s, %d) = %q, %v, want %q, %v", show(d), out, s, ok, want, found)
	}
}

// Promise P705: Short answers the shortest text, of those the first one, and never a surrogate.
func TestP705Examples(t *testing.T) {
	a, b, any := one('a'), one('b'), set(0, maxRune)
	d := mustBe(t, a, star(set('a', 'b')))
	mustSpell(t, d, 0, "a", true)
	mustSpell(t, d, 1, "", true)
	mustSpell(t, d, 2, "", false)
	mustSpell(t, mustBe(t, of(api.ReCat, star(any), a, b)), 0, "ab", true)
	mustSpell(t, mustBe(t, of(api.ReCat, any, any, any)), 0, "\x00\x00\x00", true)
	mustSpell(t, mustBe(t, a, b, of(api.ReNot, leaf(api.ReEps))), 2, "\x00", true)
	mustSpell(t, mustBe(t, of(api.ReAlt, of(api.ReCat, b, a), of(api.ReCat, a, set('x', 'z')), of(api.ReCat, a, a, a))), 0, "ax", true)
	mustSpell(t, mustBe(t, set(0xd800, 0xdfff)), 0, "", false)
	mustSpell(t, mustBe(t, set(0xd800, 0xe000)), 0, "\ue000", true)
	mustSpell(t, mustBe(t, set(0xdfff, 0x10000)), 0, "\ue000", true)
	mustSpell(t, mustBe(t, set(0xd7ff, 0xd800)), 0, "\ud7ff", true)
	mustSpell(t, mustBe(t, set(maxRune, maxRune)), 0, "\U0010ffff", true)
	mustSpell(t, mustBe(t, set(0xfffd, 0xfffd)), 0, "\ufffd", true)
	mustSpell(t, mustBe(t, of(api.ReAlt, set(0xd800, 0xd800), of(api.ReCat, b, set(0xdc00, 0xdcff)), of(api.ReCat, b, b, b))), 0, "bbb", true)
	mustSpell(t, machine(state(-1, arc('a', 'a', 1), arc('b', 'b', 2)), state(-1, arc('b', 'b', 3)), state(-1, arc('a', 'a', 4)), state(7), state(7)), 7, "ab", true)
	mustSpell(t, machine(state(-1, arc('a', 'a', 2), arc('b', 'b', 1)), state(-1, arc('a', 'a', 3)), state(-1, arc('c', 'c', 4)), state(7), state(7)), 7, "ac", true)
	mustSpell(t, machine(state(0), state(1)), 1, "", false)
	mustSpell(t, machine(state(math.MaxInt)), math.MaxInt, "", true)
	word := strings.Repeat("\u00e9a", 1000)
	mustSpell(t, mustBe(t, regex.Lit(word)), 0, word, true)
}

// Promise P705: there is no text for a DFA that is not valid, for no output, and for an output that no state has.
func TestP705Wrong(t *testing.T) {
	for _, d := range wrong() {
		for _, out := range []int{-2, -1, 0, 1} {
			mustSpell(t, d, out, "", false)
		}
	}
	for _, d := range chances(100) {
		for _, out := range []int{math.MinInt, -2, -1, 17, math.MaxInt - 1} {
			mustSpell(t, d, out, "", false)
		}
	}
}

// shortest is the second description of Short: it looks for a text among all words of more and more runes, in order.
func shortest(d api.Dfa, out, most int) (string, bool) {
	var runes []rune
	for _, c := range append(cuts(d), 0xe000) {
		// In the part of the alphabet that begins with a surrogate, a text can use what is behind the surrogates only, which begins a part too.
		if c < 0xd800 || c > 0xdfff {
			runes = append(runes, c)
		}
	}
	slices.Sort(runes)
	for _, w := range words(most, slices.Compact(runes)...) {
		if s := after(d, w); s >= 0 && d.States[s].Out == out {
			return string(w), true
		}
	}
	return "", false
}

// Promise P705: Short agrees with the second description.
func TestP705Short(t *testing.T) {
	next := numbers(5)
	for range 20000 {
		d := chance(next)
		if len(cuts(d)) > 12 {
			continue
		}
		most := min(len(d.States)-1, 4)
		for out := range 4 {
			want, found := shortest(d, out, most)
			s, ok := dfa.Short(d, out)
			if found != ok && len(d.States)-1 > most && len([]rune(s)) > most {
				continue
			}
			if s != want || ok != found {
				t.Fatalf("Short(%s, %d) = %q, %v, want %q, %v", show(d), out, s, ok, want, found)
			}
		}
	}
}
