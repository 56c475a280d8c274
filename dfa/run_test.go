package dfa_test

import (
	"math"
	"strings"
	"testing"

	"arborist/api"
	"arborist/dfa"
)

// Promise P704: the examples of the chapter, and what is examined at the end of the text, at a rune without an arc and in a state without arcs.
func TestP704Examples(t *testing.T) {
	d := mustBe(t, one('a'), star(set('a', 'b')))
	words := machine(state(-1, arc('a', 'a', 1)), state(0, arc('b', 'b', 2)), state(-1, arc(0xe9, 0xe9, 3), arc(0xfffd, 0xfffd, 4)), state(1), state(-1, arc('a', 'a', 3)))
	start := machine(state(5))
	for _, x := range []struct {
		d              api.Dfa
		s              string
		at             int
		out, end, look int
	}{
		{d, "ab!", 0, 1, 2, 1}, {d, "a", 0, 0, 1, 1}, {d, "", 0, 1, 0, 1}, {d, "ab!", 1, 1, 2, 1}, {d, "ab!", 2, 1, 2, 1}, {d, "ab!", 3, 1, 3, 1},
		{d, "a\u20ac", 0, 0, 1, 3}, {d, "a\U00010000b", 0, 0, 1, 4}, {d, "a\xff", 0, 0, 1, 1}, {d, "ab\xe2\x82", 0, 1, 2, 1}, {d, "\u20aca", 1, 1, 1, 1},
		{words, "", 0, -1, 0, 1}, {words, "x", 0, -1, 0, 1}, {words, "\u20ac", 0, -1, 0, 3}, {words, "a", 0, 0, 1, 1}, {words, "ab", 0, 0, 1, 2}, {words, "abx", 0, 0, 1, 2}, {words, "ab\u20ac", 0, 0, 1, 4},
		{words, "ab\u00e9", 0, 1, 4, 0}, {words, "ab\u00e9\u20ac", 0, 1, 4, 0}, {words, "ab\xff", 0, 0, 1, 3}, {words, "ab\xffa", 0, 1, 4, 0}, {words, "ab\ufffda", 0, 1, 6, 0}, {words, "ab\xc3\xa9", 0, 1, 4, 0}, {words, "ab\xc3", 0, 0, 1, 3},
		{words, "xab\u00e9", 1, 1, 5, 0}, {words, "b", 0, -1, 0, 1}, {words, "ab", 1, -1, 1, 1},
		{start, "", 0, 5, 0, 0}, {start, "a", 0, 5, 0, 0}, {start, "a", 1, 5, 1, 0},
		{machine(state(-1)), "a", 0, -1, 0, 0}, {machine(state(-1, arc('a', 'a', 0))), "aab", 0, -1, 0, 3}, {machine(state(-1, arc('a', 'a', 0))), "aa", 1, -1, 1, 2},
	} {
		if out, end, look := dfa.Run(x.d, x.s, x.at); out != x.out || end != x.end || look != x.look {
			t.Errorf("Run(%s, %q, %d) = %d, %d, %d, want %d, %d, %d", show(x.d), x.s, x.at, out, end, look, x.out, x.end, x.look)
		}
	}
}

// Promise P704: a DFA that is not valid, or an offset outside the text, gives -1, 0, 0.
func TestP704Wrong(t *testing.T) {
	for _, d := range wrong() {
		for _, at := range []int{-1, 0, 1, 2, 3} {
			if out, end, look := dfa.Run(d, "aa", at); out != -1 || end != 0 || look != 0 {
				t.Errorf("Run(%s, %d) = %d, %d, %d", show(d), at, out, end, look)
			}
		}
	}
	for _, d := range special() {
		for _, at := range []int{math.MinInt, -1, 3, math.MaxInt} {
			if out, end, look := dfa.Run(d, "aa", at); out != -1 || end != 0 || look != 0 {
				t.Errorf("Run(%s, %d) = %d, %d, %d", show(d), at, out, end, look)
			}
		}
	}
}

// run is the second description of Run for a valid DFA and an offset in the text.
func run(d api.Dfa, s string, at int) (out, end, look int) {
	type place struct{ state, at, size int }
	var way []place
	s0 := 0
	for i, c := range s[at:] {
		size := len(string(c))
		if c == 0xfffd && !strings.HasPrefix(s[at+i:], "\ufffd") {
			size = 1
		}
		way = append(way, place{s0, at + i, size})
		s0 = next(d, s0, c)
		if s0 < 0 {
			break
		}
	}
	if s0 >= 0 {
		way = append(way, place{s0, len(s), 1})
	}
	out, end = -1, at
	for _, x := range way {
		if d.States[x.state].Out != -1 {
			out, end = d.States[x.state].Out, x.at
		}
	}
	last := way[len(way)-1]
	look = last.at - end
	if len(d.States[last.state].Arcs) > 0 {
		look += last.size
	}
	return out, end, look
}

// Promise P704: Run finds the longest accepted prefix and what had to be examined behind it, in texts of runes of all lengths and of bytes that are not valid.
func TestP704Run(t *testing.T) {
	pieces := []string{"a", "b", "c", "\x00", "\x7f", "\u0080", "\ud7ff", "\ue000", "\ufffd", "\U00010000", "\U0010ffff", "\xff", "\xc3", "\xed\xa0\x80", "\xe2\x82", "\xf0\x9f"}
	next := numbers(4)
	for _, d := range chances(2000) {
		for range 20 {
			var b strings.Builder
			for range next(8) {
				b.WriteString(pieces[next(len(pieces))])
			}
			s := b.String()
			for at := range len(s) + 1 {
				out, end, look := dfa.Run(d, s, at)
				wantOut, wantEnd, wantLook := run(d, s, at)
				if out != wantOut || end != wantEnd || look != wantLook {
					t.Fatalf("Run(%s, %q, %d) = %d, %d, %d, want %d, %d, %d", show(d), s, at, out, end, look, wantOut, wantEnd, wantLook)
				}
			}
		}
	}
}

// Promise P704: texts are read to their end, however long they are.
func TestP704Long(t *testing.T) {
	d := mustBe(t, star(one('a')), of(api.ReCat, star(one('a')), one('b')))
	s := strings.Repeat("a", 3*api.MaxText)
	if out, end, look := dfa.Run(d, s, 5); out != 0 || end != len(s) || look != 1 {
		t.Error(out, end, look)
	}
	if out, end, look := dfa.Run(d, s+"bb", 0); out != 1 || end != len(s)+1 || look != 0 {
		t.Error(out, end, look)
	}
}
