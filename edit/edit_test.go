package edit_test

import (
	"math"
	"slices"
	"strings"
	"testing"

	"arborist/api"
	"arborist/edit"
)

// ints are numbers around the edges of the guarantees, and the least and greatest ones.
func ints() []int {
	return []int{
		math.MinInt, math.MinInt + 1, -api.MaxText, -2, -1, 0, 1, 2, 3, api.MaxText - 1, api.MaxText, api.MaxText + 1,
		1 << 32, 1 << 62, math.MaxInt - 1, math.MaxInt,
	}
}

// extremes are edits with all pairs of these numbers.
func extremes() []api.Edit {
	var l []api.Edit
	for _, at := range ints() {
		for _, del := range ints() {
			l = append(l, api.Edit{At: at, Del: del}, api.Edit{At: at, Del: del, Ins: "xy"})
		}
	}
	return l
}

// long returns a text of n bytes.
func long(n int) string { return strings.Repeat("a", n) }

// shortTexts are all texts of at most n of the bytes a and b.
func shortTexts(n int) []string {
	l := []string{""}
	for from := 0; n > 0; n-- {
		last := l[from:]
		from = len(l)
		for _, s := range last {
			l = append(l, s+"a", s+"b")
		}
	}
	return l
}

// editsOf are all edits that are valid for a text of n bytes, with each of the given inserted texts.
func editsOf(n int, ins ...string) []api.Edit {
	var l []api.Edit
	for at := 0; at <= n; at++ {
		for del := 0; at+del <= n; del++ {
			for _, s := range ins {
				l = append(l, api.Edit{At: at, Del: del, Ins: s})
			}
		}
	}
	return l
}

// mustApply applies edits that should have no error.
func mustApply(t *testing.T, s string, l ...api.Edit) string {
	t.Helper()
	got, e := edit.Apply(s, l...)
	if e != api.OK {
		t.Fatalf("Apply(%q, %v): %d", s, l, e)
	}
	return got
}

// Promise P201: no argument makes a call panic, and what stands beside an error or a false is zero.
func TestP201AllArguments(t *testing.T) {
	for _, s := range []string{"", "a", "abc", "\u00e9\xff\n", long(api.MaxText + 1)} {
		for _, e := range extremes() {
			if got, no := edit.Apply(s, e, e); no != api.OK && got != "" {
				t.Fatalf("Apply answers a text of %d bytes beside %d", len(got), no)
			}
			if back, is := edit.Back(s, e); !is && back != (api.Edit{}) {
				t.Errorf("Back(%q, %v) = %v beside false", s, e, back)
			}
			if is := edit.Right(s, e); is && (e.At < 0 || e.Del < 0) {
				t.Errorf("Right(%q, %v)", s, e)
			}
		}
	}
	for _, a := range extremes() {
		for _, b := range extremes() {
			if j, is := edit.Join(a, b); !is && j != (api.Edit{}) {
				t.Errorf("Join(%v, %v) = %v beside false", a, b, j)
			}
		}
		for _, at := range ints() {
			if to, is := edit.Shift(a, at); !is && to != 0 {
				t.Errorf("Shift(%v, %d) = %d beside false", a, at, to)
			}
		}
	}
}

// Promise P201: equal calls have equal answers, and the list of edits stays as it is, behind its length too.
func TestP201Pure(t *testing.T) {
	list := []api.Edit{{At: 0, Del: 1, Ins: "J"}, {At: 5, Ins: "!"}, {At: 1 << 40}, {At: 2}}
	kept := slices.Clone(list)
	for range 3 {
		if s, e := edit.Apply("hello", list[:2]...); s != "Jello!" || e != api.OK {
			t.Error(s, e)
		}
		if s, e := edit.Apply("hello", list...); s != "" || e != api.ErrRange {
			t.Error(s, e)
		}
	}
	if !slices.Equal(list, kept) {
		t.Error(list)
	}
}

// Promise P202: an edit is valid if its offset and what it deletes lie within the text.
func TestP202Right(t *testing.T) {
	for _, c := range []struct {
		s       string
		at, del int
		want    bool
	}{
		{"", 0, 0, true}, {"", 0, 1, false}, {"", 1, 0, false}, {"", -1, 0, false}, {"", 0, -1, false}, {"", -1, 1, false}, {"", 1, -1, false},
		{"abc", 0, 0, true}, {"abc", 0, 3, true}, {"abc", 0, 4, false}, {"abc", 1, 2, true}, {"abc", 1, 3, false}, {"abc", 3, 0, true},
		{"abc", 3, 1, false}, {"abc", 4, 0, false}, {"abc", 4, -1, false}, {"abc", 3, -1, false}, {"abc", -1, 0, false}, {"abc", -1, 1, false}, {"abc", -1, 4, false},
		{"\u00e9", 1, 1, true}, {"\u00e9", 1, 0, true}, {"\xff\n", 1, 1, true},
		{"abc", 1, 1 << 62, false}, {"abc", 1, math.MaxInt, false}, {"abc", 3, math.MaxInt, false}, {"abc", math.MaxInt, math.MaxInt, false}, {"abc", math.MaxInt, 1, false},
		{"abc", 1, math.MinInt, false}, {"abc", math.MinInt, math.MinInt, false}, {"abc", math.MinInt, 0, false}, {"abc", math.MinInt, math.MaxInt, false}, {"abc", math.MaxInt, math.MinInt, false},
	} {
		for _, ins := range []string{"", "x", long(api.MaxText + 1)} {
			if is := edit.Right(c.s, api.Edit{At: c.at, Del: c.del, Ins: ins}); is != c.want {
				t.Errorf("Right(%q, {%d, %d, %d bytes}) = %v", c.s, c.at, c.del, len(ins), is)
			}
		}
	}
}

// Promise P202: the length of a text is not bounded, so that an edit far behind MaxText may be valid.
func TestP202LongText(t *testing.T) {
	s := long(api.MaxText + 10)
	for e, want := range map[api.Edit]bool{
		{At: api.MaxText + 10}: true, {At: api.MaxText + 11}: false, {Del: api.MaxText + 10}: true, {Del: api.MaxText + 11}: false,
		{At: api.MaxText + 1, Del: 9}: true, {At: api.MaxText + 1, Del: 10}: false,
	} {
		if is := edit.Right(s, e); is != want {
			t.Errorf("Right(.., %v) = %v", e, is)
		}
	}
}

// Promise P203: edits are performed in order, each on the result of the previous ones.
func TestP203Apply(t *testing.T) {
	for _, c := range []struct {
		s    string
		l    []api.Edit
		want string
	}{
		{"", nil, ""}, {"abc", nil, "abc"}, {"abc", []api.Edit{}, "abc"}, {"abc", []api.Edit{{}}, "abc"}, {"", []api.Edit{{}}, ""},
		{"abcd", []api.Edit{{At: 1, Del: 2, Ins: "x"}}, "axd"},
		{"hello", []api.Edit{{At: 5, Ins: "!"}, {At: 0, Del: 1, Ins: "J"}}, "Jello!"},
		{"abc", []api.Edit{{Del: 3}}, ""}, {"abc", []api.Edit{{Del: 3, Ins: "xyz"}}, "xyz"}, {"abc", []api.Edit{{At: 3}}, "abc"},
		{"", []api.Edit{{Ins: "ab"}, {At: 1, Ins: "c"}, {At: 3, Ins: "d"}}, "acbd"},
		{"abc", []api.Edit{{Del: 1}, {Del: 1}, {Del: 1}}, ""}, {"abc", []api.Edit{{At: 2, Del: 1}, {At: 1, Del: 1}, {Del: 1}}, ""},
		{"ab", []api.Edit{{At: 1, Ins: "xyz"}, {At: 2, Del: 3, Ins: "-"}}, "ax-"}, {"ab", []api.Edit{{At: 2, Ins: "c"}, {At: 3, Ins: "d"}}, "abcd"},
		{"\u00e9", []api.Edit{{At: 1, Del: 1, Ins: "\xa8"}}, "\u00e8"}, {"\u00e9\u20ac", []api.Edit{{At: 1, Del: 3}}, "\xc3\xac"},
		{"\xff\n", []api.Edit{{At: 1, Ins: "\xfe\x00"}}, "\xff\xfe\x00\n"},
	} {
		if s, e := edit.Apply(c.s, c.l...); s != c.want || e != api.OK {
			t.Errorf("Apply(%q, %v) = %q, %d, not %q", c.s, c.l, s, e, c.want)
		}
	}
}

// replaced is the text after e, byte by byte, as a second description to hold Apply against.
func replaced(s string, e api.Edit) string {
	var b []byte
	for i := 0; i <= len(s); i++ {
		if i == e.At {
			b = append(b, e.Ins...)
		}
		if i < len(s) && (i < e.At || i >= e.At+e.Del) {
			b = append(b, s[i])
		}
	}
	return string(b)
}

// Promises P202 and P203: all edits of all short texts.
func TestP203AllShortTexts(t *testing.T) {
	for _, s := range shortTexts(4) {
		for at := -2; at <= len(s)+2; at++ {
			for del := -2; del <= len(s)+2; del++ {
				for _, ins := range []string{"", "x", "xyz"} {
					checkOne(t, s, api.Edit{At: at, Del: del, Ins: ins})
				}
			}
		}
	}
}

// checkOne holds Right, Apply and Back for one edit against what the guarantees say.
func checkOne(t *testing.T, s string, e api.Edit) {
	t.Helper()
	valid := e.At >= 0 && e.At <= len(s) && e.Del >= 0 && e.At+e.Del <= len(s)
	if is := edit.Right(s, e); is != valid {
		t.Errorf("Right(%q, %v) = %v", s, e, is)
	}
	got, no := edit.Apply(s, e)
	back, is := edit.Back(s, e)
	if !valid {
		if got != "" || no != api.ErrRange || is || back != (api.Edit{}) {
			t.Errorf("%q, %v: %q, %d; %v, %v", s, e, got, no, back, is)
		}
		return
	}
	if got != replaced(s, e) || no != api.OK {
		t.Errorf("Apply(%q, %v) = %q, %d", s, e, got, no)
	}
	if want := (api.Edit{At: e.At, Del: len(e.Ins), Ins: s[e.At : e.At+e.Del]}); !is || back != want {
		t.Errorf("Back(%q, %v) = %v, %v", s, e, back, is)
	}
}

// Promise P203: an edit that is not valid for the text that it meets.
func TestP203Range(t *testing.T) {
	for _, c := range []struct {
		s string
		l []api.Edit
	}{
		{"a", []api.Edit{{At: 1, Del: 1}}}, {"", []api.Edit{{At: 1}}}, {"", []api.Edit{{Del: 1}}}, {"abc", []api.Edit{{At: -1}}}, {"abc", []api.Edit{{Del: -1}}},
		{"abc", []api.Edit{{At: 1, Del: math.MaxInt}}}, {"abc", []api.Edit{{At: math.MaxInt, Del: math.MaxInt}}}, {"abc", []api.Edit{{At: math.MinInt}}}, {"abc", []api.Edit{{Del: math.MinInt}}},
		{"abc", []api.Edit{{Del: 1}, {At: 3}}}, {"abc", []api.Edit{{Del: 3}, {Del: 1}}}, {"abc", []api.Edit{{At: 4}, {Ins: "d"}}},
		{"abc", []api.Edit{{Ins: "d"}, {At: 5}}}, {"abc", []api.Edit{{Ins: "d"}, {}, {At: 4, Del: 1}}},
		{long(api.MaxText), []api.Edit{{At: api.MaxText + 1}}}, {long(api.MaxText + 1), []api.Edit{{At: api.MaxText + 2}}},
	} {
		if s, e := edit.Apply(c.s, c.l...); s != "" || e != api.ErrRange {
			t.Errorf("Apply(%d bytes, %v) = %q, %d", len(c.s), c.l, s, e)
		}
	}
}

// Promise P203: the result of each edit has at most MaxText bytes, even if a later edit shortens it.
func TestP203Long(t *testing.T) {
	full := long(api.MaxText)
	over := long(api.MaxText + 1)
	for i, c := range []struct {
		s string
		l []api.Edit
	}{
		{full, []api.Edit{{Ins: "x"}}}, {full, []api.Edit{{At: api.MaxText, Ins: "x"}}}, {full, []api.Edit{{At: 9, Del: 1, Ins: "xy"}}},
		{"", []api.Edit{{Ins: over}}}, {"a", []api.Edit{{At: 1, Ins: full}}}, {"ab", []api.Edit{{Ins: full[2:]}, {Ins: "c"}}},
		{full, []api.Edit{{Ins: "x"}, {Del: 1}}}, {full, []api.Edit{{Del: api.MaxText, Ins: over}}},
		{over, []api.Edit{{}}}, {over, []api.Edit{{At: 3, Del: 1, Ins: "x"}}}, {over + over, []api.Edit{{Del: api.MaxText}, {Del: api.MaxText}}},
	} {
		if s, e := edit.Apply(c.s, c.l...); s != "" || e != api.ErrLong {
			t.Errorf("case %d: %d bytes, %d", i, len(s), e)
		}
	}
}

// Promise P203: texts of MaxText bytes are results, a longer text may be shortened, and without edits it is answered as it is.
func TestP203Full(t *testing.T) {
	full := long(api.MaxText)
	over := long(api.MaxText + 1)
	for i, c := range []struct {
		s    string
		l    []api.Edit
		want string
	}{
		{full, []api.Edit{{}}, full}, {full[1:], []api.Edit{{At: 0, Ins: "a"}}, full}, {full[1:], []api.Edit{{At: api.MaxText - 1, Ins: "a"}}, full},
		{"", []api.Edit{{Ins: full}}, full}, {full, []api.Edit{{Del: 1}, {Ins: "b"}}, "b" + full[1:]}, {full, []api.Edit{{Del: api.MaxText, Ins: full}}, full},
		{over, []api.Edit{{At: api.MaxText, Del: 1}}, full}, {over, []api.Edit{{Del: 2, Ins: "b"}, {At: 1, Del: 1}}, "b" + full[2:]},
		{over + over, []api.Edit{{At: 1, Del: 2*api.MaxText + 1}}, "a"}, {over, nil, over},
	} {
		if s, e := edit.Apply(c.s, c.l...); s != c.want || e != api.OK {
			t.Errorf("case %d: %d bytes, %d", i, len(s), e)
		}
	}
}

// Promise P203: the first edit with an error counts, and ErrRange ahead of ErrLong at one edit.
func TestP203FirstError(t *testing.T) {
	full := long(api.MaxText)
	for i, c := range []struct {
		l    []api.Edit
		want api.Errno
	}{
		{[]api.Edit{{At: api.MaxText + 1, Ins: "x"}}, api.ErrRange}, {[]api.Edit{{At: -1, Ins: full}}, api.ErrRange}, {[]api.Edit{{Del: -1, Ins: "x"}}, api.ErrRange},
		{[]api.Edit{{Ins: "x"}, {At: -1}}, api.ErrLong}, {[]api.Edit{{At: -1}, {Ins: "x"}}, api.ErrRange},
		{[]api.Edit{{Del: 1}, {Ins: "xy"}, {At: -1}}, api.ErrLong}, {[]api.Edit{{Del: 1}, {Del: api.MaxText}, {Ins: full}}, api.ErrRange},
	} {
		if s, e := edit.Apply(full, c.l...); s != "" || e != c.want {
			t.Errorf("case %d: %d bytes, %d", i, len(s), e)
		}
	}
}

// Promise P203: the edit that takes another one back.
func TestP203Back(t *testing.T) {
	for _, c := range []struct {
		s       string
		e, want api.Edit
	}{
		{"abcd", api.Edit{At: 1, Del: 2, Ins: "x"}, api.Edit{At: 1, Del: 1, Ins: "bc"}},
		{"", api.Edit{}, api.Edit{}}, {"", api.Edit{Ins: "xy"}, api.Edit{Del: 2}}, {"abc", api.Edit{Del: 3}, api.Edit{Ins: "abc"}},
		{"abc", api.Edit{At: 3, Ins: "d"}, api.Edit{At: 3, Del: 1}}, {"abc", api.Edit{At: 3}, api.Edit{At: 3}}, {"abc", api.Edit{At: 1, Del: 1, Ins: "b"}, api.Edit{At: 1, Del: 1, Ins: "b"}},
		{"\u00e9", api.Edit{At: 1, Del: 1}, api.Edit{At: 1, Ins: "\xa9"}},
		{"", api.Edit{Ins: long(api.MaxText + 1)}, api.Edit{Del: api.MaxText + 1}},
		{long(api.MaxText + 1), api.Edit{Del: api.MaxText + 1}, api.Edit{Ins: long(api.MaxText + 1)}},
	} {
		if back, is := edit.Back(c.s, c.e); !is || back != c.want {
			t.Errorf("Back(%d bytes, {%d, %d, %d bytes}) = %v", len(c.s), c.e.At, c.e.Del, len(c.e.Ins), is)
		}
	}
	for _, e := range []api.Edit{
		{At: -1}, {At: 4}, {Del: -1}, {Del: 4}, {At: 3, Del: 1}, {At: 1, Del: math.MaxInt}, {At: math.MaxInt, Del: 1}, {At: math.MinInt}, {Del: math.MinInt, Ins: "x"},
	} {
		if back, is := edit.Back("abc", e); is || back != (api.Edit{}) {
			t.Errorf("Back(.., %v) = %v, %v", e, back, is)
		}
	}
}

// Promise P207: an edit and then its Back restore the text, and the Back of the Back is the edit again.
func TestP207Back(t *testing.T) {
	for _, s := range append(shortTexts(5), "\u00e9\xff\n\x00", long(api.MaxText)) {
		n := min(len(s), 5)
		for _, e := range editsOf(n, "", "a", "\u20ac\xff") {
			edited, no := edit.Apply(s, e)
			if no == api.ErrLong {
				continue
			}
			back, is := edit.Back(s, e)
			if !is || mustApply(t, edited, back) != s || mustApply(t, s, e, back) != s {
				t.Fatalf("%d bytes, %v: back by %v", len(s), e, back)
			}
			if again, is := edit.Back(edited, back); !is || again != e {
				t.Errorf("%d bytes, %v: back of back %v", len(s), e, again)
			}
		}
	}
}
