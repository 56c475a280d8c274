package text_test

import (
	"math"
	"slices"
	"strings"
	"testing"
	"unicode/utf8"

	"arborist/api"
	"arborist/text"
)

// samples are texts with runes of all lengths, invalid bytes of all kinds, and line ends at all edges.
func samples() []string {
	return []string{
		"", "a", "\n", "\n\n", "a\n", "\na", "ab\nc", "a\r\nb", "\r", "\t", "\x00", "\x1f\x7f\u0080",
		"\u00e9", "\u20ac", "\U0001f600", "\U0010ffff", "\ufffd", "\ufffd\xff\ufffd", "\ufeff",
		"\xff", "a\xff\u00e9", "\xc3", "\xc3\n", "\xc3\n\xa9", "\xe2\x82", "\xe2\x82a", "\xf0\x9f\x98",
		"\xed\xa0\x80", "\xf4\x90\x80\x80", "\xc0\x80", "\xef\xbf", "\xef\xbf\xbd\xbd", "\x80\xbf",
		"\"", "\\", "\\n", "\\\"", "\\u{e9}", "\\x{ff}", "a \"b\"\n\\c\t~ \u00e9\n\xff\n", "{}",
	}
}

// Promise P101: equal calls have equal answers, and no answer shares memory with another one.
func TestP101Pure(t *testing.T) {
	s := "a\xff\u00e9"
	first := text.Runes(s)
	kept := slices.Clone(first)
	second := text.Runes(s)
	for i := range first {
		first[i] = api.Rune{}
	}
	_ = append(first, api.Rune{R: 7})
	if !slices.Equal(second, kept) || !slices.Equal(text.Runes(s), kept) {
		t.Error("answers of Runes share memory")
	}
	for _, s := range samples() {
		if text.Quote(s) != text.Quote(s) || text.IsName(s) != text.IsName(s) {
			t.Errorf("%q: answers differ", s)
		}
		a, n, e := text.Unquote(s)
		if b, m, f := text.Unquote(s); a != b || n != m || e != f {
			t.Errorf("%q: answers of Unquote differ", s)
		}
	}
}

// Promise P101: no argument makes a call panic, and what stands beside an error is zero.
func TestP101AllArguments(t *testing.T) {
	ints := []int{math.MinInt, math.MinInt + 1, -1, 0, 1, 2, math.MaxInt - 1, math.MaxInt}
	for _, s := range samples() {
		for _, n := range ints {
			if p, is := text.Position(s, n); !is && p != (api.Position{}) {
				t.Errorf("Position(%q, %d) = %v beside false", s, n, p)
			}
			if v, e := text.Read(s, n); e != api.OK && v != 0 {
				t.Errorf("Read(%q, %d) = %d beside %d", s, n, v, e)
			}
			for _, m := range ints {
				if at, is := text.Place(s, api.Position{Line: n, Col: m}); !is && at != 0 {
					t.Errorf("Place(%q, %d:%d) = %d beside false", s, n, m, at)
				}
			}
		}
		if v, n, e := text.Unquote(s); e != api.OK && (v != "" || n != 0) {
			t.Errorf("Unquote(%q) = %q, %d beside %d", s, v, n, e)
		}
	}
}

// Promise P102: runes with their offsets and lengths.
func TestP102Runes(t *testing.T) {
	for s, want := range map[string][]api.Rune{
		"":                     {},
		"ab":                   {{R: 'a', At: 0, Len: 1}, {R: 'b', At: 1, Len: 1}},
		"\x00\n":               {{R: 0, At: 0, Len: 1}, {R: 10, At: 1, Len: 1}},
		"\u00e9\u20ac":         {{R: 0xe9, At: 0, Len: 2}, {R: 0x20ac, At: 2, Len: 3}},
		"\U0001f600x":          {{R: 0x1f600, At: 0, Len: 4}, {R: 'x', At: 4, Len: 1}},
		"\U0010ffff":           {{R: api.MaxRune, At: 0, Len: 4}},
		"a\xff\u00e9":          {{R: 'a', At: 0, Len: 1}, {R: 65533, At: 1, Len: 1}, {R: 0xe9, At: 2, Len: 2}},
		"\ufffd\xff\ufffd":     {{R: 65533, At: 0, Len: 3}, {R: 65533, At: 3, Len: 1}, {R: 65533, At: 4, Len: 3}},
		"\xe2\x82":             {{R: 65533, At: 0, Len: 1}, {R: 65533, At: 1, Len: 1}},
		"\xe2\x82\xac\x82":     {{R: 0x20ac, At: 0, Len: 3}, {R: 65533, At: 3, Len: 1}},
		"\xed\xa0\x80":         {{R: 65533, At: 0, Len: 1}, {R: 65533, At: 1, Len: 1}, {R: 65533, At: 2, Len: 1}},
		"\xc0\x80":             {{R: 65533, At: 0, Len: 1}, {R: 65533, At: 1, Len: 1}},
		"\xf4\x90\x80\x80":     {{R: 65533, At: 0, Len: 1}, {R: 65533, At: 1, Len: 1}, {R: 65533, At: 2, Len: 1}, {R: 65533, At: 3, Len: 1}},
		"\xef\xbf\xef\xbf\xbd": {{R: 65533, At: 0, Len: 1}, {R: 65533, At: 1, Len: 1}, {R: 65533, At: 2, Len: 3}},
	} {
		if got := text.Runes(s); !slices.Equal(got, want) {
			t.Errorf("Runes(%q) = %v, not %v", s, got, want)
		}
	}
}

// Promise P102: the runes partition the text.
func TestP102Partition(t *testing.T) {
	for _, s := range samples() {
		at := 0
		for _, r := range text.Runes(s) {
			want, n := utf8.DecodeRuneInString(s[at:])
			if r != (api.Rune{R: want, At: at, Len: n}) {
				t.Errorf("Runes(%q): %v at %d", s, r, at)
			}
			at += r.Len
		}
		if at != len(s) {
			t.Errorf("Runes(%q) end at %d", s, at)
		}
	}
}

// Promise P103: the position of an offset.
func TestP103Position(t *testing.T) {
	for _, c := range []struct {
		s         string
		at        int
		line, col int
	}{
		{"", 0, 1, 1}, {"a", 0, 1, 1}, {"a", 1, 1, 2},
		{"ab\nc", 2, 1, 3}, {"ab\nc", 3, 2, 1}, {"ab\nc", 4, 2, 2},
		{"ab\n", 3, 2, 1}, {"\n", 0, 1, 1}, {"\n", 1, 2, 1}, {"\n\n", 1, 2, 1}, {"\n\n", 2, 3, 1},
		{"\u00e9\u20acx", 2, 1, 2}, {"\u00e9\u20acx", 5, 1, 3}, {"\u00e9\u20acx", 6, 1, 4},
		{"a\n\u00e9b", 4, 2, 2}, {"a\n\u00e9b", 5, 2, 3},
		{"a\r\nb", 2, 1, 3}, {"a\rb", 2, 1, 3}, {"a\u2028b", 4, 1, 3},
		{"\xff\xfe\n", 1, 1, 2}, {"\xff\xfe\n", 2, 1, 3}, {"\xff\xfe\n", 3, 2, 1},
		{"\xc3\nx", 1, 1, 2}, {"\xc3\nx", 2, 2, 1},
	} {
		p, is := text.Position(c.s, c.at)
		if want := (api.Position{Line: c.line, Col: c.col}); !is || p != want {
			t.Errorf("Position(%q, %d) = %v, %v, not %v", c.s, c.at, p, is, want)
		}
	}
}

// Promise P103: no position for an offset that is no rune boundary.
func TestP103NoPosition(t *testing.T) {
	for _, c := range []struct {
		s  string
		at int
	}{
		{"", -1}, {"", 1}, {"a", -1}, {"a", 2}, {"ab\n", 4}, {"\u00e9", 1}, {"x\u20ac", 2}, {"x\u20ac", 3},
		{"\U0001f600", 1}, {"\U0001f600", 2}, {"\U0001f600", 3}, {"\ufffd", 1}, {"\ufffd", 2},
		{"abc", math.MinInt}, {"abc", math.MaxInt}, {"a\n\u00e9", 3},
	} {
		if p, is := text.Position(c.s, c.at); is || p != (api.Position{}) {
			t.Errorf("Position(%q, %d) = %v, %v", c.s, c.at, p, is)
		}
	}
}

// Promise P103: the offset of a position.
func TestP103Place(t *testing.T) {
	for _, c := range []struct {
		s             string
		line, col, at int
	}{
		{"", 1, 1, 0}, {"a", 1, 2, 1}, {"ab\ncd", 2, 2, 4}, {"ab\ncd", 1, 3, 2}, {"ab\ncd", 2, 3, 5},
		{"ab\n", 2, 1, 3}, {"\n\n", 3, 1, 2}, {"\u00e9\u20acx", 1, 3, 5}, {"\xff\xfe", 1, 2, 1}, {"a\r\nb", 2, 1, 3},
	} {
		at, is := text.Place(c.s, api.Position{Line: c.line, Col: c.col})
		if !is || at != c.at {
			t.Errorf("Place(%q, %d:%d) = %d, %v, not %d", c.s, c.line, c.col, at, is, c.at)
		}
	}
}

// Promise P103: no offset for a position that no rune boundary has.
func TestP103NoPlace(t *testing.T) {
	for _, c := range []struct {
		s         string
		line, col int
	}{
		{"", 0, 0}, {"", 0, 1}, {"", 1, 0}, {"", 1, 2}, {"", 2, 1}, {"a", 1, 3}, {"a", 2, 1}, {"a", 1, -1}, {"a", -1, 1},
		{"ab\n", 1, 4}, {"ab\n", 2, 2}, {"ab\n", 2, 0}, {"ab\n", 3, 1}, {"\u00e9", 1, 3},
		{"ab\ncd", 1, 5}, {"ab\ncd", 2, 4}, {"ab", math.MinInt, math.MinInt}, {"ab", math.MaxInt, math.MaxInt},
		{"ab", 1, math.MaxInt}, {"ab", math.MaxInt, 1},
	} {
		if at, is := text.Place(c.s, api.Position{Line: c.line, Col: c.col}); is || at != 0 {
			t.Errorf("Place(%q, %d:%d) = %d, %v", c.s, c.line, c.col, at, is)
		}
	}
}

// Promise P106: names.
func TestP106IsName(t *testing.T) {
	for _, s := range []string{
		"a", "z", "A", "Z", "_", "__", "_1", "a0", "a9", "aZ_09", "start", strings.Repeat("a", api.MaxName), strings.Repeat("_", api.MaxName),
	} {
		if !text.IsName(s) {
			t.Errorf("%q is a name", s)
		}
	}
	for _, s := range []string{
		"", "0", "9a", "1", "-", "a-b", "a b", " a", "a ", "a\n", "a.b", "$end", "a$", "a\x00", "a\xff", "\xff", "\u00e9", "a\u00e9", "a\u0663",
		strings.Repeat("a", api.MaxName+1), strings.Repeat("a", 100*api.MaxName),
	} {
		if text.IsName(s) {
			t.Errorf("%q is no name", s)
		}
	}
}

// Promise P106: which single bytes a name may begin with and go on with.
func TestP106Bytes(t *testing.T) {
	const letters = "abcdefghijklmnopqrstuvwxyzABCDEFGHIJKLMNOPQRSTUVWXYZ_"
	for c := range 256 {
		s := string([]byte{byte(c)})
		first := strings.Contains(letters, s)
		if text.IsName(s) != first {
			t.Errorf("%q alone", s)
		}
		if text.IsName("a"+s) != (first || strings.Contains("0123456789", s)) {
			t.Errorf("%q behind a letter", s)
		}
	}
}

// Promise P107: each rune boundary is recovered from its position, and positions ascend with offsets.
func TestP107Positions(t *testing.T) {
	for _, s := range samples() {
		last := api.Position{}
		for at := -2; at <= len(s)+2; at++ {
			p, is := text.Position(s, at)
			if is != isBoundary(s, at) {
				t.Errorf("Position(%q, %d) = %v, %v", s, at, p, is)
			}
			if !is {
				continue
			}
			if p.Line < last.Line || p.Line == last.Line && p.Col <= last.Col {
				t.Errorf("Position(%q, %d) = %v behind %v", s, at, p, last)
			}
			last = p
			if back, is := text.Place(s, p); !is || back != at {
				t.Errorf("Place(%q, %v) = %d, %v, not %d", s, p, back, is, at)
			}
		}
	}
}

// isBoundary reports whether a rune of s starts at the offset at, or s ends there.
func isBoundary(s string, at int) bool {
	if at == len(s) {
		return true
	}
	return slices.ContainsFunc(text.Runes(s), func(r api.Rune) bool { return r.At == at })
}
