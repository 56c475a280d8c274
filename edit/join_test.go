package edit_test

import (
	"math"
	"slices"
	"testing"

	"arborist/api"
	"arborist/edit"
)

// Promise P204: joined edits.
func TestP204Join(t *testing.T) {
	for _, c := range []struct{ a, b, want api.Edit }{
		{api.Edit{At: 2, Del: 1, Ins: "xy"}, api.Edit{At: 1, Del: 2, Ins: "z"}, api.Edit{At: 1, Del: 2, Ins: "zy"}},
		{api.Edit{}, api.Edit{}, api.Edit{}},
		{api.Edit{At: 2, Ins: "xy"}, api.Edit{At: 3, Ins: "-"}, api.Edit{At: 2, Ins: "x-y"}},
		{api.Edit{At: 2, Ins: "xy"}, api.Edit{At: 2, Ins: "-"}, api.Edit{At: 2, Ins: "-xy"}},
		{api.Edit{At: 2, Ins: "xy"}, api.Edit{At: 4, Ins: "-"}, api.Edit{At: 2, Ins: "xy-"}},
		{api.Edit{At: 2, Ins: "xy"}, api.Edit{At: 2, Del: 2}, api.Edit{At: 2}},
		{api.Edit{At: 2, Ins: "xy"}, api.Edit{At: 3, Del: 4, Ins: "-"}, api.Edit{At: 2, Del: 3, Ins: "x-"}},
		{api.Edit{At: 2, Del: 5, Ins: "xy"}, api.Edit{At: 4, Del: 4, Ins: "-"}, api.Edit{At: 2, Del: 9, Ins: "xy-"}},
		{api.Edit{At: 2, Del: 5, Ins: "xy"}, api.Edit{At: 0, Del: 2, Ins: "-"}, api.Edit{At: 0, Del: 7, Ins: "-xy"}},
		{api.Edit{At: 2, Del: 5, Ins: "xy"}, api.Edit{At: 0, Del: 9, Ins: "-"}, api.Edit{At: 0, Del: 12, Ins: "-"}},
		{api.Edit{At: 2, Del: 3}, api.Edit{At: 0, Del: 2}, api.Edit{At: 0, Del: 5}},
		{api.Edit{At: 2, Del: 3}, api.Edit{At: 1, Del: 2}, api.Edit{At: 1, Del: 5}},
		{api.Edit{At: 2, Del: 3}, api.Edit{At: 2, Del: 2}, api.Edit{At: 2, Del: 5}},
		{api.Edit{At: 2, Ins: "\u00e9"}, api.Edit{At: 3, Del: 1, Ins: "\xa8"}, api.Edit{At: 2, Ins: "\u00e8"}},
	} {
		if j, is := edit.Join(c.a, c.b); !is || j != c.want {
			t.Errorf("Join(%v, %v) = %v, %v, not %v", c.a, c.b, j, is, c.want)
		}
	}
}

// Promise P204: edits of which the second one lies apart from what the first one inserts, by one byte or by many.
func TestP204Apart(t *testing.T) {
	for _, c := range []struct{ a, b api.Edit }{
		{api.Edit{At: 2, Ins: "xy"}, api.Edit{At: 5}}, {api.Edit{At: 2, Ins: "xy"}, api.Edit{At: 1}}, {api.Edit{At: 2, Ins: "xy"}, api.Edit{At: 0, Del: 1, Ins: "long text"}},
		{api.Edit{At: 2}, api.Edit{At: 3}}, {api.Edit{At: 2, Del: 7}, api.Edit{At: 3, Del: 1}}, {api.Edit{At: 2}, api.Edit{At: 0, Del: 1}},
		{api.Edit{}, api.Edit{At: 1}}, {api.Edit{At: 1}, api.Edit{}}, {api.Edit{At: 2, Del: 7, Ins: "x"}, api.Edit{At: 4, Ins: "z"}},
		{api.Edit{At: api.MaxText}, api.Edit{}}, {api.Edit{}, api.Edit{At: api.MaxText, Del: api.MaxText}},
	} {
		if j, is := edit.Join(c.a, c.b); is || j != (api.Edit{}) {
			t.Errorf("Join(%v, %v) = %v, %v", c.a, c.b, j, is)
		}
	}
}

// largest are small edits at the bound, each in one of its values.
func largest() []api.Edit {
	return []api.Edit{{At: api.MaxText}, {Del: api.MaxText}, {Ins: long(api.MaxText)}, {At: api.MaxText, Del: api.MaxText, Ins: long(api.MaxText)}}
}

// notSmall are edits with one value that is out of the bounds of small ones.
func notSmall() []api.Edit {
	l := []api.Edit{{Ins: long(api.MaxText + 1)}}
	for _, n := range []int{math.MinInt, -1, api.MaxText + 1, 1 << 62, math.MaxInt} {
		l = append(l, api.Edit{At: n}, api.Edit{Del: n}, api.Edit{At: n, Del: n})
	}
	return l
}

// Promise P204: only small edits are joined, whichever of the two is not.
func TestP204Small(t *testing.T) {
	for _, e := range notSmall() {
		for _, other := range []api.Edit{{}, {Ins: "x"}, {Del: api.MaxText}, {Del: api.MaxText, Ins: long(api.MaxText)}, {At: e.At}, e} {
			if j, is := edit.Join(e, other); is || j != (api.Edit{}) {
				t.Errorf("{%d, %d, %d bytes} joined with %d, %d", e.At, e.Del, len(e.Ins), other.At, other.Del)
			}
			if j, is := edit.Join(other, e); is || j != (api.Edit{}) {
				t.Errorf("%d, %d joined with {%d, %d, %d bytes}", other.At, other.Del, e.At, e.Del, len(e.Ins))
			}
		}
	}
}

// Promise P204: edits at the bound are small, and their join may exceed it.
func TestP204Largest(t *testing.T) {
	full := long(api.MaxText)
	most := api.Edit{At: api.MaxText, Del: api.MaxText, Ins: full}
	for i, c := range []struct{ a, b, want api.Edit }{
		{api.Edit{At: api.MaxText}, api.Edit{At: api.MaxText}, api.Edit{At: api.MaxText}},
		{api.Edit{Del: api.MaxText}, api.Edit{Del: api.MaxText}, api.Edit{Del: 2 * api.MaxText}},
		{api.Edit{Ins: full}, api.Edit{Ins: full}, api.Edit{Ins: full + full}},
		{api.Edit{Ins: full}, api.Edit{Del: api.MaxText}, api.Edit{}},
		{api.Edit{Ins: full}, api.Edit{At: api.MaxText, Del: api.MaxText, Ins: "b"}, api.Edit{Del: api.MaxText, Ins: full + "b"}},
		{api.Edit{At: api.MaxText, Ins: "b"}, api.Edit{Del: api.MaxText}, api.Edit{Del: api.MaxText, Ins: "b"}},
		{most, most, api.Edit{At: api.MaxText, Del: api.MaxText, Ins: full}},
		{most, api.Edit{Del: api.MaxText, Ins: "b"}, api.Edit{Del: 2 * api.MaxText, Ins: "b" + full}},
	} {
		if j, is := edit.Join(c.a, c.b); !is || j != c.want {
			t.Errorf("case %d: {%d, %d, %d bytes}, %v", i, j.At, j.Del, len(j.Ins), is)
		}
	}
}

// mark tells where a byte of a text comes from: the old text (0), the first edit (1) or the second one (2).
type mark struct {
	from int
	byte byte
}

// marked returns the marks of a text that the given edit inserts.
func marked(from int, s string) []mark {
	var l []mark
	for i := range len(s) {
		l = append(l, mark{from, s[i]})
	}
	return l
}

// joined is what the guarantee says of Join, told by performing both edits on the marks of a text that is long enough.
func joined(a, b api.Edit) (api.Edit, bool) {
	if b.At > a.At+len(a.Ins) || b.At+b.Del < a.At {
		return api.Edit{}, false
	}
	const size = 24
	l := make([]mark, size)
	l = slices.Replace(l, a.At, a.At+a.Del, marked(1, a.Ins)...)
	old := 0
	for _, m := range l[b.At : b.At+b.Del] {
		if m.from == 0 {
			old++
		}
	}
	l = slices.Replace(l, b.At, b.At+b.Del, marked(2, b.Ins)...)
	want := api.Edit{At: min(a.At, b.At), Del: a.Del + old}
	for _, m := range l {
		if m.from != 0 {
			want.Ins += string(m.byte)
		}
	}
	return want, true
}

// Promise P204: all pairs of edits with few bytes.
func TestP204AllShort(t *testing.T) {
	for _, a := range editsOf(6, "", "x", "xyz") {
		for _, b := range editsOf(11, "", "p", "pq") {
			j, is := edit.Join(a, b)
			if want, touch := joined(a, b); is != touch || j != want {
				t.Fatalf("Join(%v, %v) = %v, %v, not %v, %v", a, b, j, is, want, touch)
			}
		}
	}
}

// Promise P207: the join of two edits has the effect of both.
func TestP207Join(t *testing.T) {
	for _, s := range []string{"", "a", "ab", "abcde"} {
		for _, a := range editsOf(len(s), "", "x", "xyz") {
			between := mustApply(t, s, a)
			for _, b := range editsOf(len(between), "", "p", "pq") {
				j, is := edit.Join(a, b)
				if is && mustApply(t, s, j) != mustApply(t, s, a, b) {
					t.Fatalf("%q: Join(%v, %v) = %v", s, a, b, j)
				}
			}
		}
	}
}

// Promise P207: joins of joins have the effect of all their edits.
func TestP207Joins(t *testing.T) {
	s := "abcdefgh"
	typed := api.Edit{At: 3, Del: 2}
	l := []api.Edit{typed}
	for i := range 20 {
		next := api.Edit{At: 3 + i/2, Del: i % 3 / 2, Ins: string(rune('k' + i))}
		j, is := edit.Join(typed, next)
		if !is {
			t.Fatal(typed, next)
		}
		typed = j
		l = append(l, next)
		if one, all := mustApply(t, s, typed), mustApply(t, s, l...); one != all {
			t.Fatalf("%q by %v, %q by %v", one, typed, all, l)
		}
	}
}
