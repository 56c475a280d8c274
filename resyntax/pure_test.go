package resyntax_test

import (
	"slices"
	"strings"
	"testing"

	"arborist/api"
	"arborist/regex"
	"arborist/resyntax"
)

// Promise P501: no text makes Read panic; beside an error there is nothing else, and what it answers without one is valid.
func TestP501AllTexts(t *testing.T) {
	next := numbers(9)
	pieces := []string{"a", "b", "(", "(", ")", ")", "[", "]", "[^", "-", "|", "&", "!", "*", "+", "?", ".", "{2}", "{", "}", "{1,}", "{0,3}", ",", "3", "\\", "\\n", "\\u{", "\\u{e9}", "\u00e9", "\xff", "\xe2\x82", "\x00", "/", "^"}
	good := 0
	for range 20000 {
		var b strings.Builder
		for range next(25) {
			// The first pieces are more frequent, so that some texts have no error.
			b.WriteString(pieces[next(1+next(len(pieces)))])
		}
		r, d := resyntax.Read(b.String())
		switch {
		case d != (api.Diag{}):
			if r.Kind != 0 || r.Set != nil || r.Kids != nil || d.Kind == api.OK || d.Name != "" || d.At < 0 || d.At > b.Len() {
				t.Errorf("Read(%q) = %v, %v", b.String(), r, d)
			}
		case regex.Right(r) != api.OK:
			t.Errorf("Read(%q) = %v is not valid", b.String(), r)
		default:
			good++
		}
	}
	if good < 1000 {
		t.Errorf("only %d texts had no error", good)
	}
}

// Promise P501: texts of MaxText bytes are read, of whatever they consist.
func TestP501LongTexts(t *testing.T) {
	for _, s := range []string{"a", "(", ")", "[", "]", "|", "&", "!", "*", ".", "\\", "{", "^", "\xff", "\x00", "()", "[]", "a*", "!a", "a|", "a{0}", "a{1}", "[a-z]", "\\u{61}", "(a", "a)", "((a)*", "!(", "a{64", "\\u{6", "[\\u{61}-", "a|&", "(|", "[^^]{64}"} {
		resyntax.Read(strings.Repeat(s, api.MaxText/len(s)))
		resyntax.Read("a" + strings.Repeat(s, (api.MaxText-1)/len(s)))
		resyntax.Read("[" + strings.Repeat(s, (api.MaxText-2)/len(s)) + "]")
		resyntax.Read("a{" + strings.Repeat(s, (api.MaxText-3)/len(s)) + "}")
	}
}

// Promise P501: nil and empty lists are equivalent.
func TestP501Empty(t *testing.T) {
	var hollow func(r api.Re) api.Re
	hollow = func(r api.Re) api.Re {
		h := api.Re{Kind: r.Kind, Set: append(api.Set{}, r.Set...), Kids: []api.Re{}}
		for _, kid := range r.Kids {
			h.Kids = append(h.Kids, hollow(kid))
		}
		return h
	}
	for _, r := range pool() {
		mustSpell(t, "Show", resyntax.Show(hollow(r)), resyntax.Show(r))
	}
}

// memory has an entry for each place in the lists that were marked.
type memory map[any]bool

// enter enters a place. It tells if that has been entered before.
func (m memory) enter(t *testing.T, place any) {
	t.Helper()
	if m[place] {
		t.Fatal("an answer has memory that is in use elsewhere")
	}
	m[place] = true
}

// mark enters the places of all lists of r, those behind their lengths too.
func (m memory) mark(t *testing.T, r api.Re) {
	t.Helper()
	s, kids := r.Set[:cap(r.Set)], r.Kids[:cap(r.Kids)]
	for i := range s {
		m.enter(t, &s[i])
	}
	for i := range kids {
		m.enter(t, &kids[i])
	}
	for _, kid := range r.Kids {
		m.mark(t, kid)
	}
}

// Promise P501: no two lists of answers share memory, and a text is read alike each time.
func TestP501Pure(t *testing.T) {
	for _, s := range []string{"a", ".", "[^a]", "[a-z_]{3}", "(a|bc)*", "(a|bc){2,4}", "((ab)+){2}", "!(a&.*)|b?", "a{64}", "(((a)))", "(x*){1}", "!!a", "[^]&[a-z]", "a?{3}", "(a*)*|a*"} {
		m := memory{}
		first := mustRead(t, s)
		m.mark(t, first)
		for range 2 {
			r := mustRead(t, s)
			m.mark(t, r)
			if !equal(r, first) {
				t.Errorf("Read(%q) changes", s)
			}
		}
	}
}

// full is what the lists of r hold, behind their lengths too.
func full(r api.Re) []int {
	l := []int{int(r.Kind), len(r.Set), len(r.Kids)}
	for _, q := range r.Set[:cap(r.Set)] {
		l = append(l, int(q.Lo), int(q.Hi))
	}
	for _, kid := range r.Kids[:cap(r.Kids)] {
		l = append(l, full(kid)...)
	}
	return l
}

// Promise P501: arguments stay as they are, behind their lengths too.
func TestP501Arguments(t *testing.T) {
	var spare func(r api.Re) api.Re
	spare = func(r api.Re) api.Re {
		s := append(make(api.Set, 0, len(r.Set)+3), r.Set...)
		copy(s[len(s):cap(s)], bounds('!', '!', '?', '?', '.', '.'))
		kids := make([]api.Re, 0, len(r.Kids)+2)
		for _, kid := range r.Kids {
			kids = append(kids, spare(kid))
		}
		copy(kids[len(kids):cap(kids)], []api.Re{one('!'), leaf(9)})
		return api.Re{Kind: r.Kind, Set: s, Kids: kids}
	}
	for _, r := range append(pool(), wild()[:50]...) {
		x := spare(r)
		kept := full(x)
		if resyntax.Show(x) != resyntax.Show(r) || resyntax.Class(x.Set) != resyntax.Class(r.Set) {
			t.Errorf("the room behind %v changes its text", r)
		}
		if !slices.Equal(full(x), kept) {
			t.Errorf("the argument %v has changed", r)
		}
	}
}
