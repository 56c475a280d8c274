package text_test

import (
	"regexp"
	"strconv"
	"strings"
	"testing"
	"unicode/utf8"

	"arborist/api"
	"arborist/text"
)

// Promise P105: how each kind of rune is quoted.
func TestP105Quote(t *testing.T) {
	for s, want := range map[string]string{
		"":               `""`,
		"a\"\n":          `"a\"\n"`,
		`\`:              `"\\"`,
		"\n\r\t":         `"\n\r\t"`,
		" ~!#'[]{}":      `" ~!#'[]{}"`,
		"\x00\x01\x1f":   `"\u{0}\u{1}\u{1f}"`,
		"\a\b\f\v":       `"\u{7}\u{8}\u{c}\u{b}"`,
		"\x7f\u0080":     `"\u{7f}\u{80}"`,
		"\u00e9\u20ac":   `"\u{e9}\u{20ac}"`,
		"\U0001f600":     `"\u{1f600}"`,
		"\U00100000":     `"\u{100000}"`,
		"\U0010ffff":     `"\u{10ffff}"`,
		"\ufffd":         `"\u{fffd}"`,
		"\xff\t\u00e9~":  `"\x{ff}\t\u{e9}~"`,
		"\x80\xab":       `"\x{80}\x{ab}"`,
		"\ufffd\xef\xbf": `"\u{fffd}\x{ef}\x{bf}"`,
		"\xed\xa0\x80":   `"\x{ed}\x{a0}\x{80}"`,
		"\xc3\n":         `"\x{c3}\n"`,
		`\n`:             `"\\n"`,
		`\u{e9}`:         `"\\u{e9}"`,
	} {
		if got := text.Quote(s); got != want {
			t.Errorf("Quote(%q) = %s, not %s", s, got, want)
		}
	}
}

// quotedRune is what Quote writes for the rune r of the text s.
func quotedRune(s string, r rune) string {
	switch {
	case !utf8.ValidString(s):
		return `\x{` + strconv.FormatInt(int64(s[0]), 16) + `}`
	case r == '\n':
		return `\n`
	case r == '\r':
		return `\r`
	case r == '\t':
		return `\t`
	case r == '"' || r == '\\':
		return `\` + s
	case r < 32 || r > 126:
		return `\u{` + strconv.FormatInt(int64(r), 16) + `}`
	}
	return s
}

// Promise P105: every rune and every byte is quoted as its kind asks, and is read back.
func TestP105Runes(t *testing.T) {
	texts := []string{}
	for r := rune(0); r <= utf8.MaxRune; r++ {
		if utf8.ValidRune(r) {
			texts = append(texts, string(r))
		}
	}
	for c := 128; c < 256; c++ {
		texts = append(texts, string([]byte{byte(c)}))
	}
	for _, s := range texts {
		r, _ := utf8.DecodeRuneInString(s)
		q := text.Quote(s)
		if want := `"` + quotedRune(s, r) + `"`; q != want {
			t.Fatalf("Quote(%q) = %s, not %s", s, q, want)
		}
		if back, n, e := text.Unquote(q); back != s || n != len(q) || e != api.OK {
			t.Fatalf("Unquote(%s) = %q, %d, %d", q, back, n, e)
		}
	}
}

// Promise P105: what Unquote accepts, the prefix of it, and the decoded text.
func TestP105Unquote(t *testing.T) {
	for _, c := range []struct {
		s, want string
		n       int
	}{
		{`""`, "", 2}, {`"" x`, "", 2}, {`"a"b"`, "a", 3}, {`"a\"b"`, `a"b`, 6}, {`"\\"`, `\`, 4}, {`"\\""`, `\`, 4},
		{`"\n\r\t"`, "\n\r\t", 8}, {`"\u{e9}" x`, "\u00e9", 8}, {"\"\u00e9\u20ac\U0001f600\"", "\u00e9\u20ac\U0001f600", 11},
		{"\"\u0080\"", "\u0080", 4}, {"\"\ufffd\"", "\ufffd", 5}, {"\"\U0010ffff\"", "\U0010ffff", 6}, {"\" ~\"", " ~", 4},
		{`"\u{41}"`, "A", 8}, {`"\u{a}"`, "\n", 7}, {`"\u{00000a}"`, "\n", 12}, {`"\u{0}"`, "\x00", 7}, {`"\u{000000}"`, "\x00", 12},
		{`"\u{22}\u{5c}"`, `"\`, 14}, {`"\u{d7ff}\u{e000}"`, "\ud7ff\ue000", 18}, {`"\u{10ffff}"`, "\U0010ffff", 12}, {`"\u{fffd}"`, "\ufffd", 10},
		{`"\u{00e9}"`, "\u00e9", 10}, {`"\u{7f}"`, "\x7f", 8}, {`"\u{ff}"`, "\u00ff", 8},
		{`"\x{41}"`, "A", 8}, {`"\x{00}"`, "\x00", 8}, {`"\x{0a}"`, "\n", 8}, {`"\x{22}"`, `"`, 8}, {`"\x{7f}"`, "\x7f", 8}, {`"\x{ff}"`, "\xff", 8},
		{`"\x{c3}\x{a9}"`, "\u00e9", 14}, {`"\x{e9}"`, "\xe9", 8},
		{"\"a\"\n", "a", 3}, {"\"a\"\xff", "a", 3}, {"\"a\"\x01", "a", 3},
	} {
		if s, n, e := text.Unquote(c.s); s != c.want || n != c.n || e != api.OK {
			t.Errorf("Unquote(%q) = %q, %d, %d, not %q, %d", c.s, s, n, e, c.want, c.n)
		}
	}
}

// wrong checks that Unquote answers e for each of the texts.
func wrong(t *testing.T, e api.Errno, texts ...string) {
	t.Helper()
	for _, s := range texts {
		if v, n, f := text.Unquote(s); v != "" || n != 0 || f != e {
			t.Errorf("Unquote(%q) = %q, %d, %d, not %d", s, v, n, f, e)
		}
	}
}

// Promise P105: the errors of a text without an opening quote.
func TestP105NoQuote(t *testing.T) {
	wrong(t, api.ErrForm, "", "a", " \"\"", "\n", "\\\"", "'a'", "\xff", "\u201ca\u201d")
}

// Promise P105: a newline byte and the end of the text end a quoted text, within escapes too.
func TestP105Unterminated(t *testing.T) {
	for _, s := range []string{
		`"`, `"a`, `"a\n`, `"\"`, `"\\\"`, `"\`, `"\\\`, `"\x`, `"\x{`, `"\x{f`, `"\x{ff`, `"\u`, `"\u{`, `"\u{1`, `"\u{d800`, `"\u{12345`, `"\u{123456`, `"\u{ffffff`,
		"\"\u00e9", "\"{", "\"}",
	} {
		wrong(t, api.ErrUnterminated, s, s+"\n", s+"\n\"", s+"\n}\"", s+"\n\xff", s+"\n\x01")
	}
}

// Promise P105: whatever else is not allowed.
func TestP105Form(t *testing.T) {
	for _, s := range []string{
		"\"\x00", "\"\x01", "\"\t", "\"\r", "\"a\x1f", "\"\x7f", "\"a\xff", "\"\xc3", "\"\xe2\x82", "\"\xed\xa0\x80", "\"\xf4\x90\x80\x80", "\"\xc0\x80",
		`"\q`, `"\a`, `"\0`, `"\N`, `"\X{41}`, `"\U{41}`, `"\ `, `"\'`, "\"\\\t", "\"\\\r", "\"\\\xff", "\"\\\u00e9", `"\{`, `"\}`, `"\/`,
		`"\x4`, `"\x}`, `"\x"`, `"\x{}`, `"\x{"`, `"\x{4}`, `"\x{4"`, `"\x{g`, `"\x{4g`, `"\x{414`, `"\x{FF}`, `"\x{41"`, `"\x{41 }`, `"\x{ 41}`, "\"\\x{\xff", `"\x{-1}`,
		`"\u4`, `"\u}`, `"\u"`, `"\u{}`, `"\u{"`, `"\u{g`, `"\u{1"`, `"\u{1 }`, `"\u{ 1}`, `"\u{E9}`, `"\u{0000000`, `"\u{0000041}`, `"\u{1g}`, "\"\\u{1\xff", "\"\\u{\u00e9",
		`"\u{d800}`, `"\u{dfff}`, `"\u{00d800}`, `"\u{dabc}`, `"\u{110000}`, `"\u{ffffff}`, `"\u{+1}`, `"\u{1_0}`, `"\u{0x1}`, `"\u{/}`, `"\u{:}`, "\"\\u{`}",
	} {
		wrong(t, api.ErrForm, s, s+`"`, s+"\n", s+`}"`)
	}
}

// Promise P105: of two errors the first from the left counts.
func TestP105FirstError(t *testing.T) {
	wrong(t, api.ErrForm, "\"\\q\n", "\"\x01\n", "\"a\xff", "\"\\u{d800}\n", "\"\\u{0000000\n", "\"\\x{4}\n", "\"\\u\"\n")
	wrong(t, api.ErrUnterminated, "\"\n\\q\"", "\"a\n\x01", "\"\\\n\xff", "\"\\u{d800\n}", "\"\\x{4\ng}\"")
}

// The form of quoted texts by regular expressions, as a second description to hold Unquote against. They see bytes as the runes of equal number.
const (
	plainForm  = `[ !#-\[\]-~\x{80}-\x{ff}]`
	escapeForm = `\\["\\nrt]|\\x\{[0-9a-f]{2}\}|\\u\{[0-9a-f]{1,6}\}`
	openForm   = `\\(?:x(?:\{[0-9a-f]{0,2})?|u(?:\{[0-9a-f]{0,6})?)?`
)

// judge holds the second description.
type judge struct{ item, open *regexp.Regexp }

func newJudge() judge {
	return judge{regexp.MustCompile(`^(?:` + plainForm + `|` + escapeForm + `)`), regexp.MustCompile(`^(?:` + openForm + `)?(?:\n|$)`)}
}

// latin returns the text whose runes are the bytes of s.
func latin(s string) string {
	var b strings.Builder
	for i := range len(s) {
		b.WriteRune(rune(s[i]))
	}
	return b.String()
}

// answer returns what Unquote should answer for s: the length of the prefix and the error.
func (j judge) answer(s string) (int, api.Errno) {
	if s == "" || s[0] != '"' {
		return 0, api.ErrForm
	}
	for at := 1; ; {
		if at < len(s) && s[at] == '"' {
			return at + 1, api.OK
		}
		rest := latin(s[at:])
		if j.open.MatchString(rest) {
			return 0, api.ErrUnterminated
		}
		item := []rune(j.item.FindString(rest))
		n := len(item)
		if n == 1 {
			r, size := utf8.DecodeRuneInString(s[at:])
			if r == utf8.RuneError && size == 1 {
				return 0, api.ErrForm
			}
			n = size
		}
		if n == 0 || !validCode(s[at:at+n]) {
			return 0, api.ErrForm
		}
		at += n
	}
}

// validCode reports whether s is not an escape of a number that is no rune.
func validCode(s string) bool {
	if !strings.HasPrefix(s, `\u{`) {
		return true
	}
	n, e := strconv.ParseUint(s[3:len(s)-1], 16, 32)
	return e == nil && n <= utf8.MaxRune && utf8.ValidRune(rune(n))
}

// each calls visit with start and every text of at most n of the pieces behind it.
func each(start string, pieces []string, n int, visit func(string)) {
	visit(start)
	if n == 0 {
		return
	}
	for _, p := range pieces {
		each(start+p, pieces, n-1, visit)
	}
}

// Promise P105: all short texts over small alphabets are answered as the second description asks.
func TestP105AllShortTexts(t *testing.T) {
	j := newJudge()
	check := func(s string) {
		v, n, e := text.Unquote(s)
		if m, f := j.answer(s); n != m || e != f {
			t.Fatalf("Unquote(%q) = %q, %d, %d, not %d, %d", s, v, n, e, m, f)
		}
		if e != api.OK {
			return
		}
		q := text.Quote(v)
		if back, size, e := text.Unquote(q); back != v || size != len(q) || e != api.OK {
			t.Fatalf("Unquote(%s) = %q, %d, %d", q, back, size, e)
		}
	}
	each("", []string{`"`, `\`, "x", "u", "{", "}", "0", "d", "n", "\n", "\xc3", "\xa9"}, 4, check)
	each(`"`, []string{`"`, `\`, "x", "{", "}", "0", "\n", "\xc3", "\xa9"}, 4, check)
	each(`"\u{`, []string{"0", "1", "d", "8", "f", "}", "\"", "\n", "g"}, 4, check)
	each(`"\u{00`, []string{"0", "d", "8", "}", "\""}, 6, check)
	each(`"\u{11`, []string{"0", "f", "}", "\"", "\n"}, 6, check)
	each(`"\u{d`, []string{"7", "8", "f", "}", "\""}, 5, check)
	each(`"\x{`, []string{"0", "9", "a", "f", "A", "}", "\"", "\n", "\xff"}, 4, check)
}

// Promise P107: what Quote returns is read back, whatever follows.
func TestP107Quoting(t *testing.T) {
	for _, s := range samples() {
		q := text.Quote(s)
		for _, behind := range samples() {
			if v, n, e := text.Unquote(q + behind); v != s || n != len(q) || e != api.OK {
				t.Errorf("Unquote(%q) = %q, %d, %d", q+behind, v, n, e)
			}
		}
	}
}

// Promise P107: all short texts are read back.
func TestP107AllShortTexts(t *testing.T) {
	each("", []string{"a", "\"", "\\", "\n", "u", "{", "e", "}", "\x00", "\xc3", "\xa9", "\xef\xbf", "\xbd"}, 4, func(s string) {
		q := text.Quote(s)
		if v, n, e := text.Unquote(q + s); v != s || n != len(q) || e != api.OK {
			t.Fatalf("Unquote(%q) = %q, %d, %d", q+s, v, n, e)
		}
	})
}

// Promise P107: a long text is read back, and so are many quoted texts in a row.
func TestP107Long(t *testing.T) {
	s := strings.Repeat("a\u00e9\xff\n\"\\", api.MaxText/7)
	q := text.Quote(s)
	if v, n, e := text.Unquote(q + s); v != s || n != len(q) || e != api.OK {
		t.Error("a long text", len(v), n, e)
	}
	row := strings.Repeat(`"a"`, api.MaxText/3)
	count := 0
	for row != "" {
		v, n, e := text.Unquote(row)
		if v != "a" || n != 3 || e != api.OK {
			t.Fatal("in a row", v, n, e)
		}
		row = row[n:]
		count++
	}
	if count != api.MaxText/3 {
		t.Error(count)
	}
}
