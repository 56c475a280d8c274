package resyntax_test

import (
	"regexp"
	"strconv"
	"strings"
	"testing"
	"unicode/utf8"

	"arborist/api"
	"arborist/resyntax"
)

// wrong is a text with its first error.
type wrong struct {
	s  string
	e  api.Errno
	at int
}

// mustAllFail tells which of the texts have not the error that they should have.
func mustAllFail(t *testing.T, l []wrong) {
	t.Helper()
	for _, x := range l {
		mustFail(t, x.s, x.e, x.at)
	}
}

// Promise P502: a text longer than MaxText is refused at 0, whatever it holds; one of MaxText bytes is not.
func TestP502LongText(t *testing.T) {
	for _, s := range []string{"a", "*", "\xff", "(", "!", "\\", "[^"} {
		long := strings.Repeat(s, api.MaxText)
		mustFail(t, long[:api.MaxText]+"a", api.ErrLong, 0)
	}
	mustFail(t, strings.Repeat("\u00e9", api.MaxText/2)+"a", api.ErrLong, 0)
	mustRead(t, "["+strings.Repeat("a", api.MaxText-2)+"]")
	mustRead(t, "["+strings.Repeat("\u00e9", api.MaxText/2-1)+"]")
	mustFail(t, strings.Repeat("a", api.MaxText-1)+"*)", api.ErrLong, 0)
	mustFail(t, strings.Repeat("a", api.MaxText-1)+")", api.ErrChar, api.MaxText-1)
}

// Promise P502: ErrChar stands at bytes that are not valid UTF-8 and at runes that are not allowed there.
func TestP502Char(t *testing.T) {
	mustAllFail(t, []wrong{
		{"*", api.ErrChar, 0}, {"+", api.ErrChar, 0}, {"?", api.ErrChar, 0}, {")", api.ErrChar, 0}, {"]", api.ErrChar, 0}, {"}", api.ErrChar, 0}, {"a}", api.ErrChar, 1}, {"a]", api.ErrChar, 1},
		// A brace that has nothing to repeat is not allowed there, even if it would begin a repetition elsewhere.
		{"{", api.ErrChar, 0}, {"{2}", api.ErrChar, 0}, {"a|{2}", api.ErrChar, 2}, {"({2})", api.ErrChar, 1}, {"!{2}", api.ErrChar, 1}, {"{x", api.ErrChar, 0},
		{"a)", api.ErrChar, 1}, {"(a))", api.ErrChar, 3}, {"()*)", api.ErrChar, 3}, {"a|*", api.ErrChar, 2}, {"a&?", api.ErrChar, 2}, {"(+a)", api.ErrChar, 1},
		{"!)", api.ErrChar, 1}, {"!|a", api.ErrChar, 1}, {"!&a", api.ErrChar, 1}, {"!*", api.ErrChar, 1}, {"!!+", api.ErrChar, 2}, {"(!)", api.ErrChar, 2}, {"a!]", api.ErrChar, 2}, {"!}", api.ErrChar, 1},
		{"a\xff", api.ErrChar, 1}, {"\xff", api.ErrChar, 0}, {"\xc3", api.ErrChar, 0}, {"\u00e9\xc3", api.ErrChar, 2}, {"\xe2\x82", api.ErrChar, 0}, {"\xe2\x82a", api.ErrChar, 0}, {"\xed\xa0\x80", api.ErrChar, 0}, {"\xf4\x90\x80\x80", api.ErrChar, 0}, {"\xc0\x80", api.ErrChar, 0},
		{"!\x80", api.ErrChar, 1}, {"(\xff", api.ErrChar, 1}, {"a*\xff", api.ErrChar, 2},
		{"[-a]", api.ErrChar, 1}, {"[^-a]", api.ErrChar, 2}, {"[a-]", api.ErrChar, 3}, {"[a--]", api.ErrChar, 3}, {"[a-b-c]", api.ErrChar, 4}, {"[[", api.ErrChar, 1}, {"[a[", api.ErrChar, 2}, {"[a-[", api.ErrChar, 3}, {"[-", api.ErrChar, 1},
		{"[\xff", api.ErrChar, 1}, {"[a\xff]", api.ErrChar, 2}, {"[a-\xff]", api.ErrChar, 3}, {"[^\xe2\x82]", api.ErrChar, 2}, {"[]]", api.ErrChar, 2}, {"[]a]", api.ErrChar, 3}, {"[a]]", api.ErrChar, 3},
	})
}

// Promise P502: ErrUnterminated stands at the innermost ( or [ that is not closed.
func TestP502Unterminated(t *testing.T) {
	mustAllFail(t, []wrong{
		{"(", api.ErrUnterminated, 0}, {"(a", api.ErrUnterminated, 0}, {"a(b", api.ErrUnterminated, 1}, {"((", api.ErrUnterminated, 1}, {"(()", api.ErrUnterminated, 0}, {"(a(b)c", api.ErrUnterminated, 0}, {"(a)(b", api.ErrUnterminated, 3},
		{"(!", api.ErrUnterminated, 0}, {"(a!!", api.ErrUnterminated, 0}, {"!(", api.ErrUnterminated, 1}, {"(a|", api.ErrUnterminated, 0}, {"(&", api.ErrUnterminated, 0}, {"(a*", api.ErrUnterminated, 0}, {"(a{2}", api.ErrUnterminated, 0}, {"(\\n", api.ErrUnterminated, 0}, {"(.", api.ErrUnterminated, 0}, {"\u00e9(", api.ErrUnterminated, 2},
		{"[", api.ErrUnterminated, 0}, {"[^", api.ErrUnterminated, 0}, {"x[a", api.ErrUnterminated, 1}, {"x[a-", api.ErrUnterminated, 1}, {"x[a-b", api.ErrUnterminated, 1}, {"([", api.ErrUnterminated, 1}, {"([a]", api.ErrUnterminated, 0}, {"(a[]", api.ErrUnterminated, 0}, {"[a][", api.ErrUnterminated, 3}, {"[(", api.ErrUnterminated, 0}, {"([(]", api.ErrUnterminated, 0}, {"[\\n", api.ErrUnterminated, 0}, {"[\\]", api.ErrUnterminated, 0}, {"![", api.ErrUnterminated, 1},
	})
}

// Promise P502: ErrEnd stands at the end of a text that ends behind a complement outside all parentheses.
func TestP502End(t *testing.T) {
	mustAllFail(t, []wrong{{"!", api.ErrEnd, 1}, {"a!", api.ErrEnd, 2}, {"!!", api.ErrEnd, 2}, {"a|!", api.ErrEnd, 3}, {"(a)!", api.ErrEnd, 4}, {"[(]!!!", api.ErrEnd, 6}, {"\u00e9!", api.ErrEnd, 3}})
}

// Promise P502: ErrDeep stands at a ( inside MaxDeep others that are not closed.
func TestP502Deep(t *testing.T) {
	open, closed := strings.Repeat("(", api.MaxDeep), strings.Repeat(")", api.MaxDeep)
	mustRead(t, open+closed)
	mustRead(t, open+"[((]"+closed+open+"\\("+closed)
	mustRead(t, open+")(a)(b)("+closed)
	mustAllFail(t, []wrong{
		{open + "(", api.ErrDeep, api.MaxDeep}, {open + "()" + closed, api.ErrDeep, api.MaxDeep}, {open + "((*\xff", api.ErrDeep, api.MaxDeep}, {open + "a|[(]!(", api.ErrDeep, api.MaxDeep + 6},
		{open + closed + open + "(", api.ErrDeep, 3 * api.MaxDeep}, {open + ")((", api.ErrDeep, api.MaxDeep + 2}, {open + "*(", api.ErrChar, api.MaxDeep}, {open, api.ErrUnterminated, api.MaxDeep - 1}, {open + "[", api.ErrUnterminated, api.MaxDeep},
	})
}

// Promise P502: ErrForm stands at a backslash without an escape and at a brace without a repetition, those too that the end cuts off.
func TestP502Form(t *testing.T) {
	for c := range rune(0x180) {
		if !strings.ContainsRune(`nrtu!&()*+-./?[\]^{|}`, c) {
			mustFail(t, "a\\"+string(c), api.ErrForm, 1)
			mustFail(t, "[\\"+string(c)+"]", api.ErrForm, 1)
		}
	}
	mustAllFail(t, []wrong{
		{"\\", api.ErrForm, 0}, {"a\\", api.ErrForm, 1}, {"(\\", api.ErrForm, 1}, {"[\\", api.ErrForm, 1}, {"[a-\\", api.ErrForm, 3}, {"[a-\\q]", api.ErrForm, 3}, {"!\\", api.ErrForm, 1}, {"\\\\\\", api.ErrForm, 2}, {"\\\xff", api.ErrForm, 0}, {"\\\u00e9", api.ErrForm, 0}, {"\\ ", api.ErrForm, 0}, {"\\\n", api.ErrForm, 0}, {"\\N", api.ErrForm, 0}, {"\\U{41}", api.ErrForm, 0},
		{"\\u", api.ErrForm, 0}, {"\\u{", api.ErrForm, 0}, {"\\u{4", api.ErrForm, 0}, {"\\u{41", api.ErrForm, 0}, {"\\u{}", api.ErrForm, 0}, {"\\u41", api.ErrForm, 0}, {"\\u41}", api.ErrForm, 0}, {"\\u{0000041}", api.ErrForm, 0}, {"\\u{1100000}", api.ErrForm, 0}, {"\\u{g}", api.ErrForm, 0}, {"\\u{4 }", api.ErrForm, 0}, {"\\u{-4}", api.ErrForm, 0}, {"\\u{+4}", api.ErrForm, 0}, {"\\u{0x4}", api.ErrForm, 0}, {"\\u{4_1}", api.ErrForm, 0}, {"\\u{\xff}", api.ErrForm, 0}, {"\\u{110000", api.ErrForm, 0}, {"[\\u{41]", api.ErrForm, 1}, {"(\\u{41)", api.ErrForm, 1},
		{"a{", api.ErrForm, 1}, {"a{}", api.ErrForm, 1}, {"a{2", api.ErrForm, 1}, {"a{2,", api.ErrForm, 1}, {"a{2,3", api.ErrForm, 1}, {"a{,}", api.ErrForm, 1}, {"a{,2}", api.ErrForm, 1}, {"a{2,3,4}", api.ErrForm, 1}, {"a{2,,}", api.ErrForm, 1}, {"a{ 2}", api.ErrForm, 1}, {"a{2 }", api.ErrForm, 1}, {"a{2, 3}", api.ErrForm, 1}, {"a{-1}", api.ErrForm, 1}, {"a{+1}", api.ErrForm, 1}, {"a{1_0}", api.ErrForm, 1}, {"a{x}", api.ErrForm, 1}, {"a{2x}", api.ErrForm, 1}, {"a{\xff}", api.ErrForm, 1}, {"a{{2}", api.ErrForm, 1}, {"a{2]", api.ErrForm, 1}, {"(a{2", api.ErrForm, 2}, {"(a{", api.ErrForm, 2}, {"a{\u0662}", api.ErrForm, 1}, {"ab*{2}{", api.ErrForm, 6}, {"a{2}{3,x}", api.ErrForm, 4},
		// What has not the form of a repetition is told ahead of its numbers.
		{"a{01", api.ErrForm, 1}, {"a{65,x}", api.ErrForm, 1}, {"a{3,2", api.ErrForm, 1},
	})
}

// Promise P502: ErrNumber stands at a brace with a number that has a leading zero or exceeds MaxTimes, and ErrRange at one whose first number is the greater one.
func TestP502Numbers(t *testing.T) {
	mustAllFail(t, []wrong{
		{"a{01}", api.ErrNumber, 1}, {"a{00}", api.ErrNumber, 1}, {"a{064}", api.ErrNumber, 1}, {"a{65}", api.ErrNumber, 1}, {"a{65,}", api.ErrNumber, 1}, {"a{01,}", api.ErrNumber, 1}, {"a{1,02}", api.ErrNumber, 1}, {"a{01,2}", api.ErrNumber, 1}, {"a{1,65}", api.ErrNumber, 1}, {"a{1,00}", api.ErrNumber, 1}, {"a{65,66}", api.ErrNumber, 1}, {"a{65,2}", api.ErrNumber, 1}, {"a{3,02}", api.ErrNumber, 1}, {"a{100}", api.ErrNumber, 1}, {"a{9999999999}", api.ErrNumber, 1}, {"a{18446744073709551617}", api.ErrNumber, 1}, {"a{1,18446744073709551617}", api.ErrNumber, 1}, {"a{" + strings.Repeat("9", 60000) + "}", api.ErrNumber, 1}, {"a{" + strings.Repeat("0", 60000) + "}", api.ErrNumber, 1}, {"(a{01}", api.ErrNumber, 2}, {"ab?{99}*)", api.ErrNumber, 3},
		{"a{3,2}", api.ErrRange, 1}, {"a{1,0}", api.ErrRange, 1}, {"a{64,63}", api.ErrRange, 1}, {"(a{10,9}", api.ErrRange, 2}, {"a{2}{2,1}{2,0}", api.ErrRange, 4},
	})
	for _, s := range []string{"a{0}", "a{0,0}", "a{0,}", "a{0,64}", "a{64}", "a{64,}", "a{64,64}", "a{9,10}", "a{10,20}"} {
		mustRead(t, s)
	}
}

// Promise P502: ErrClass stands at an escape beyond MaxRune and at the first char of a range that is turned round.
func TestP502Class(t *testing.T) {
	mustAllFail(t, []wrong{
		{"\\u{110000}", api.ErrClass, 0}, {"a\\u{ffffff}", api.ErrClass, 1}, {"a*\\u{FFFFFF}", api.ErrClass, 2}, {"[\\u{110000}]", api.ErrClass, 1}, {"[^\\u{110000}", api.ErrClass, 2}, {"[a-\\u{110000}]", api.ErrClass, 3}, {"[\\u{110000}-a]", api.ErrClass, 1}, {"(\\u{110000}", api.ErrClass, 1},
		{"[b-a]", api.ErrClass, 1}, {"[^b-a]", api.ErrClass, 2}, {"[xb-a]", api.ErrClass, 2}, {"[b-a", api.ErrClass, 1}, {"[b-a\xff]", api.ErrClass, 1}, {"[\\u{62}-a]", api.ErrClass, 1}, {"[\\]-\\[]", api.ErrClass, 1}, {"[\u00e9-a]", api.ErrClass, 1}, {"[\u00e9b-\\n]", api.ErrClass, 3}, {"[a-bc-b]", api.ErrClass, 4}, {"x[b-a]", api.ErrClass, 2},
	})
	for _, s := range []string{"\\u{10ffff}", "[\\u{0}-\\u{10FFFF}]", "[a-a]", "[a-b]", "[\\[-\\]]"} {
		mustRead(t, s)
	}
}

// Promise P502: of several errors the first one from left to right is told.
func TestP502First(t *testing.T) {
	mustAllFail(t, []wrong{
		{"*\xff", api.ErrChar, 0}, {"(\\q", api.ErrForm, 1}, {"\\q(", api.ErrForm, 0}, {"[b-a]*)", api.ErrClass, 1}, {"a{65})", api.ErrNumber, 1}, {")a{65}", api.ErrChar, 0}, {"a{64}{64}{64})", api.ErrChar, 13}, {"(a{64}{64}{64}", api.ErrUnterminated, 0}, {"a{64}{64}{64}!", api.ErrEnd, 14},
	})
}

var (
	escapeForm     = regexp.MustCompile(`^\\(?:[nrt!&()*+./?\[\\\]^{|}-]|u\{([0-9a-fA-F]{1,6})\})`)
	repetitionForm = regexp.MustCompile(`^\{([0-9]+)(,?)([0-9]*)\}`)
)

// machine is the second description of the syntax: it goes from one rune, escape, or repetition to the next.
type machine struct {
	s string
	// at is where the machine stands.
	at int
	// state is o if there is nothing to repeat ahead of at, ! behind a complement and a behind an atom; within a class it is [ at its beginning, c behind a char that may begin a range, - behind the hyphen and o elsewhere.
	state byte
	// low and lowAt are the char that may begin a range, and where it stands.
	low, lowAt int
	open       []int
	inClass    bool
}

// firstError is the error that Read should tell for s, but for the limits on weight and depth.
func firstError(s string) api.Diag {
	m := &machine{s: s, state: 'o'}
	for m.at < len(s) {
		step := m.outside
		if m.inClass {
			step = m.inside
		}
		if e, at := step(s[m.at]); e != api.OK {
			return api.Diag{Kind: e, At: at}
		}
	}
	switch {
	case len(m.open) > 0:
		return api.Diag{Kind: api.ErrUnterminated, At: m.open[len(m.open)-1]}
	case m.state == '!':
		return api.Diag{Kind: api.ErrEnd, At: len(s)}
	}
	return api.Diag{}
}

// outside takes the next step outside all classes; c stands there.
func (m *machine) outside(c byte) (api.Errno, int) {
	start := m.at
	switch {
	case c == '{' && m.state == 'a':
		return m.repetition(), start
	case strings.IndexByte("*+?", c) >= 0 && m.state == 'a':
	case strings.IndexByte("|&", c) >= 0 && m.state != '!':
		m.state = 'o'
	case c == '!':
		m.state = '!'
	case c == ')' && m.state != '!' && len(m.open) > 0:
		m.open, m.state = m.open[:len(m.open)-1], 'a'
	case c == '(' && len(m.open) == api.MaxDeep:
		return api.ErrDeep, start
	case c == '(':
		m.open, m.state = append(m.open, start), 'o'
	case c == '[':
		m.open, m.state, m.inClass = append(m.open, start), '[', true
	case strings.IndexByte("*+?{|&)]}", c) >= 0:
		return api.ErrChar, start
	default:
		m.state = 'a'
		_, n, e := m.rune()
		m.at += n
		return e, start
	}
	m.at++
	return api.OK, 0
}

// inside takes the next step inside a class; c stands there.
func (m *machine) inside(c byte) (api.Errno, int) {
	start := m.at
	switch {
	case c == ']' && m.state != '-':
		m.open, m.state, m.inClass = m.open[:len(m.open)-1], 'a', false
	case c == '^' && m.state == '[':
		m.state = 'o'
	case c == '-' && m.state == 'c':
		m.state = '-'
	case c == ']' || c == '[' || c == '-':
		return api.ErrChar, start
	default:
		r, n, e := m.rune()
		m.at += n
		if e != api.OK {
			return e, start
		}
		if m.state == '-' {
			m.state = 'o'
			if r < m.low {
				return api.ErrClass, m.lowAt
			}
			return api.OK, 0
		}
		m.state, m.low, m.lowAt = 'c', r, start
		return api.OK, 0
	}
	m.at++
	return api.OK, 0
}

// rune is the ordinary rune or the escape that stands next, and its length.
func (m *machine) rune() (int, int, api.Errno) {
	if m.s[m.at] != '\\' {
		r, n := utf8.DecodeRuneInString(m.s[m.at:])
		if n == 1 && r == utf8.RuneError {
			return 0, 0, api.ErrChar
		}
		return int(r), n, api.OK
	}
	l := escapeForm.FindStringSubmatch(m.s[m.at:])
	if l == nil {
		return 0, 0, api.ErrForm
	}
	r := int(l[0][1])
	if i := strings.IndexByte("nrt", l[0][1]); i >= 0 {
		r = int("\n\r\t"[i])
	}
	if l[1] != "" {
		n, _ := strconv.ParseInt(l[1], 16, 64)
		r = int(n)
	}
	if r > api.MaxRune {
		return 0, 0, api.ErrClass
	}
	return r, len(l[0]), api.OK
}

// repetition goes behind the repetition that stands next.
func (m *machine) repetition() api.Errno {
	l := repetitionForm.FindStringSubmatch(m.s[m.at:])
	if l == nil || l[2] == "" && l[3] != "" {
		return api.ErrForm
	}
	for _, digits := range []string{l[1], l[3]} {
		if len(digits) > 1 && digits[0] == '0' || len(digits) > 2 || len(digits) == 2 && digits > "64" {
			return api.ErrNumber
		}
	}
	if l[3] != "" && (len(l[3]) < len(l[1]) || len(l[3]) == len(l[1]) && l[3] < l[1]) {
		return api.ErrRange
	}
	m.at += len(l[0])
	return api.OK
}

// Promise P502: Read accepts and refuses what the second description accepts and refuses, for all short texts of many pieces.
func TestP502AllTexts(t *testing.T) {
	var l []string
	l = append(l, texts(4, "", strings.Split("a ( ) [ ] | & ! * ? . ^ - { } \\ / \xff", " ")...)...)
	l = append(l, texts(7, "", strings.Split("a ( ) | !", " ")...)...)
	l = append(l, texts(6, "", strings.Split("( ) [ ] - ^ b \\", " ")...)...)
	l = append(l, texts(6, "[", strings.Split("a - c ] \\n ^ \\u{b}", " ")...)...)
	l = append(l, texts(6, "a{", strings.Split("0 1 6 5 , }", " ")...)...)
	l = append(l, texts(5, "(!\\u{", strings.Split("0 1 F g } a{ )", " ")...)...)
	l = append(l, texts(5, "", strings.Split("(a a{2 } a{3, {1 \\u{11 0000} [ ]", " ")...)...)
	for _, s := range l {
		r, d := resyntax.Read(s)
		if want := firstError(s); d != want {
			t.Errorf("Read(%q) has the error %v, want %v", s, d, want)
		}
		if d != (api.Diag{}) && (r.Kind != 0 || r.Set != nil || r.Kids != nil) {
			t.Errorf("Read(%q) answers %v beside an error", s, r)
		}
	}
}
