package edit_test

import (
	"math"
	"strings"
	"testing"

	"arborist/api"
	"arborist/edit"
)

// Promise P205: differences.
func TestP205Diff(t *testing.T) {
	full := long(api.MaxText + 1)
	for _, c := range []struct {
		a, b string
		want api.Edit
	}{
		{"", "", api.Edit{}}, {"abc", "abc", api.Edit{At: 3}}, {"", "abc", api.Edit{Ins: "abc"}}, {"abc", "", api.Edit{Del: 3}},
		{"abcd", "axd", api.Edit{At: 1, Del: 2, Ins: "x"}}, {"axd", "abcd", api.Edit{At: 1, Del: 1, Ins: "bc"}},
		{"aaa", "aa", api.Edit{At: 2, Del: 1}}, {"aa", "aaa", api.Edit{At: 2, Ins: "a"}}, {"aba", "a", api.Edit{At: 1, Del: 2}}, {"a", "aba", api.Edit{At: 1, Ins: "ba"}},
		{"abab", "ab", api.Edit{At: 2, Del: 2}}, {"abcabd", "abd", api.Edit{At: 2, Del: 3}}, {"abd", "abcabd", api.Edit{At: 2, Ins: "cab"}},
		{"abc", "xyz", api.Edit{Del: 3, Ins: "xyz"}}, {"abc", "xbc", api.Edit{Del: 1, Ins: "x"}}, {"abc", "abx", api.Edit{At: 2, Del: 1, Ins: "x"}}, {"abc", "bc", api.Edit{Del: 1}},
		{"abc", "ac", api.Edit{At: 1, Del: 1}}, {"ab", "ba", api.Edit{Del: 2, Ins: "ba"}}, {"abba", "aba", api.Edit{At: 2, Del: 1}},
		{"\u00e9", "\u00e8", api.Edit{At: 1, Del: 1, Ins: "\xa8"}}, {"\u00e9", "\u0129", api.Edit{Del: 1, Ins: "\xc4"}}, {"\xff", "\xfe", api.Edit{Del: 1, Ins: "\xfe"}},
		{"\x00a", "\x00b", api.Edit{At: 1, Del: 1, Ins: "b"}}, {"a\n", "a\r\n", api.Edit{At: 1, Ins: "\r"}},
		{full, full, api.Edit{At: api.MaxText + 1}}, {full, full + "b", api.Edit{At: api.MaxText + 1, Ins: "b"}}, {"b" + full, full, api.Edit{Del: 1}}, {"", full, api.Edit{Ins: full}},
	} {
		if d := edit.Diff(c.a, c.b); d != c.want {
			t.Errorf("Diff of %d and %d bytes = {%d, %d, %d bytes}", len(c.a), len(c.b), d.At, d.Del, len(d.Ins))
		}
	}
}

// difference is what the guarantee says of Diff, told by trying all lengths, the greatest first.
func difference(a, b string) api.Edit {
	front := min(len(a), len(b))
	for !strings.HasPrefix(b, a[:front]) {
		front--
	}
	a, b = a[front:], b[front:]
	back := min(len(a), len(b))
	for !strings.HasSuffix(b, a[len(a)-back:]) {
		back--
	}
	return api.Edit{At: front, Del: len(a) - back, Ins: b[:len(b)-back]}
}

// Promises P205 and P207: all pairs of short texts; the difference yields the second one.
func TestP205AllShortTexts(t *testing.T) {
	texts := append(shortTexts(6), "abc", "acb", "\u00e9a", "\u00e8a", "a\xff", "\xffa\xff")
	for _, a := range texts {
		for _, b := range texts {
			d := edit.Diff(a, b)
			if want := difference(a, b); d != want {
				t.Fatalf("Diff(%q, %q) = %v, not %v", a, b, d, want)
			}
			if s, e := edit.Apply(a, d); s != b || e != api.OK {
				t.Fatalf("P207: Apply(%q, %v) = %q, %d, not %q", a, d, s, e, b)
			}
		}
	}
}

// Promise P206: mapped offsets.
func TestP206Shift(t *testing.T) {
	for _, c := range []struct {
		e        api.Edit
		at, want int
	}{
		{api.Edit{At: 1, Del: 2, Ins: "x"}, 0, 0}, {api.Edit{At: 1, Del: 2, Ins: "x"}, 1, 1}, {api.Edit{At: 1, Del: 2, Ins: "x"}, 3, 2}, {api.Edit{At: 1, Del: 2, Ins: "x"}, 4, 3},
		{api.Edit{At: 2, Ins: "xy"}, 1, 1}, {api.Edit{At: 2, Ins: "xy"}, 2, 2}, {api.Edit{At: 2, Ins: "xy"}, 3, 5},
		{api.Edit{}, 0, 0}, {api.Edit{}, 7, 7}, {api.Edit{Del: 1}, 0, 0}, {api.Edit{Del: 1}, 1, 0}, {api.Edit{Del: 3, Ins: "\u20ac"}, 5, 5},
		{api.Edit{}, api.MaxText, api.MaxText}, {api.Edit{At: api.MaxText}, api.MaxText, api.MaxText}, {api.Edit{At: api.MaxText, Ins: "x"}, api.MaxText, api.MaxText},
		{api.Edit{Del: api.MaxText}, api.MaxText, 0}, {api.Edit{Ins: long(api.MaxText)}, api.MaxText, 2 * api.MaxText}, {api.Edit{At: 1, Del: api.MaxText}, 1, 1},
	} {
		if to, is := edit.Shift(c.e, c.at); !is || to != c.want {
			t.Errorf("Shift({%d, %d, %d bytes}, %d) = %d, %v, not %d", c.e.At, c.e.Del, len(c.e.Ins), c.at, to, is, c.want)
		}
	}
}

// Promise P206: offsets within what is deleted, and those out of range.
func TestP206Lost(t *testing.T) {
	for _, c := range []struct {
		e  api.Edit
		at int
	}{
		{api.Edit{At: 1, Del: 2, Ins: "x"}, 2}, {api.Edit{Del: 3}, 1}, {api.Edit{Del: 3}, 2}, {api.Edit{Del: api.MaxText}, api.MaxText - 1}, {api.Edit{At: 1, Del: api.MaxText}, api.MaxText},
		{api.Edit{At: api.MaxText - 1, Del: 2}, api.MaxText},
		{api.Edit{}, -1}, {api.Edit{}, api.MaxText + 1}, {api.Edit{At: 3}, math.MinInt}, {api.Edit{At: 3}, math.MaxInt}, {api.Edit{At: api.MaxText}, api.MaxText + 1}, {api.Edit{At: 3, Ins: "x"}, -3},
	} {
		if to, is := edit.Shift(c.e, c.at); is || to != 0 {
			t.Errorf("Shift(%v, %d) = %d, %v", c.e, c.at, to, is)
		}
	}
}

// Promise P206: no offset is mapped through an edit that is not small, but through those at the bound.
func TestP206Small(t *testing.T) {
	for _, e := range notSmall() {
		for _, at := range append(ints(), 7) {
			if to, is := edit.Shift(e, at); is || to != 0 {
				t.Errorf("Shift({%d, %d, %d bytes}, %d) = %d, %v", e.At, e.Del, len(e.Ins), at, to, is)
			}
		}
	}
	for _, e := range largest() {
		if to, is := edit.Shift(e, 0); !is || to != 0 {
			t.Errorf("Shift({%d, %d, %d bytes}, 0) = %d, %v", e.At, e.Del, len(e.Ins), to, is)
		}
	}
}

// Promises P206 and P207: for all edits of a text whose bytes are all different, Shift tells where each offset goes, and where each byte that is not deleted is found.
func TestP207Shift(t *testing.T) {
	s := "abcdefg"
	for _, e := range editsOf(len(s), "", "x", "xyz") {
		edited := mustApply(t, s, e)
		for at := 0; at <= len(s); at++ {
			to, is := edit.Shift(e, at)
			if within := at > e.At && at < e.At+e.Del; is == within {
				t.Fatalf("Shift(%v, %d) = %d, %v", e, at, to, is)
			}
			deleted := at >= e.At && at < e.At+e.Del
			if deleted || at == len(s) {
				continue
			}
			if at == e.At {
				to += len(e.Ins)
			}
			if edited[to] != s[at] {
				t.Fatalf("Shift(%v, %d) = %d, where %q has another byte", e, at, to, edited)
			}
		}
	}
}

// Promise P206: the three cases for all offsets and all edits with few bytes.
func TestP206AllShort(t *testing.T) {
	for _, e := range editsOf(6, "", "x", "xyz") {
		for at := range 9 {
			want, found := 0, false
			if at <= e.At {
				want, found = at, true
			} else if at >= e.At+e.Del {
				want, found = at-e.Del+len(e.Ins), true
			}
			if to, is := edit.Shift(e, at); to != want || is != found {
				t.Fatalf("Shift(%v, %d) = %d, %v, not %d, %v", e, at, to, is, want, found)
			}
		}
	}
}
