package dfa_test

import (
	"strings"
	"testing"

	"arborist/api"
	"arborist/deriv"
	"arborist/dfa"
)

// texts are texts of runes of all lengths, with bytes that are no part of valid UTF-8.
func texts() []string {
	return []string{"", "a", "b", "ab", "ba", "abab", "aabbaab", "bbbbb", "x", "axb", "\u00e9", "a\u00e9b", "b\u00e9a\u00e9", "\xff", "a\xffb", "\xc3", "\xc3a", "\u20ac\xe2\x82b", "\ufffd\xff", "\U0010ffff\x00", "\xed\xa0\x80"}
}

// Promise P706: Least answers what Of does, unchanged.
func TestP706Least(t *testing.T) {
	for _, l := range append(lists(), hard()...) {
		if d, e := dfa.Of(l...); e == api.OK {
			mustEqual(t, "Least "+show(l), dfa.Least(d), d)
			if !dfa.Right(d) || !dfa.Same(d, d) {
				t.Errorf("Of(%s) is not valid", show(l))
			}
		}
	}
}

// longest is the second description of what Run finds in the DFA of l: the smallest index of an expression that matches the longest prefix of s[at:] that one matches, and the end of that prefix.
func longest(l []api.Re, s string, at int) (out, end int) {
	out, end = -1, at
	for i, r := range l {
		if to, found := deriv.Longest(r, s, at); found && (out < 0 || to > end) {
			out, end = i, to
		}
	}
	return out, end
}

// Promise P706: Run finds the longest prefix that an expression matches, and the smallest index of one that does.
func TestP706Longest(t *testing.T) {
	all := append(texts(), strings.Repeat("ab", 40), strings.Repeat("aab", 30)+"\u00e9")
	for _, l := range lists() {
		d := mustBe(t, l...)
		for _, s := range all {
			for at := 0; at <= len(s); at += 1 + len(s)/8 {
				out, end, _ := dfa.Run(d, s, at)
				if wantOut, wantEnd := longest(l, s, at); out != wantOut || end != wantEnd {
					t.Fatalf("Of(%s) runs on %q from %d to %d, %d, want %d, %d", show(l), s, at, out, end, wantOut, wantEnd)
				}
			}
		}
	}
}

// Promise P706: a text of Short for an output is matched by the expression with that index, by none ahead of it, and no shorter word is.
func TestP706Short(t *testing.T) {
	all := words(3, 'a', 'b', 0xe9)
	for _, l := range lists() {
		d := mustBe(t, l...)
		for out := range len(l) + 1 {
			s, found := dfa.Short(d, out)
			w := []rune(s)
			if found && len(w) <= 6 && firstMatch(l, w) != out {
				t.Errorf("Of(%s): %q is not for %d", show(l), s, out)
			}
			for _, v := range all {
				if firstMatch(l, v) == out && (!found || len(v) < len(w) || len(v) == len(w) && string(v) < s) {
					t.Errorf("Of(%s): %q is not the shortest text for %d, but %q is", show(l), s, out, string(v))
				}
			}
		}
	}
}
