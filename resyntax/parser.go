package resyntax

import (
	"strconv"
	"strings"
	"unicode/utf8"

	"arborist/api"
	"arborist/charset"
	"arborist/regex"
)

// escapable are the characters that a backslash makes ordinary.
const escapable = `!&()*+-./?[\]^{|}`

// parser reads the expression s from left to right. It fails at the first error.
type parser struct {
	s  string
	at int
	// open are the offsets of the parentheses, and of the class behind them, that are not closed ahead of at.
	open []int
}

// whole reads all of s.
func (p *parser) whole() part {
	x := p.expr()
	if p.at < len(p.s) {
		// An expr ends only at the end or at a parenthesis, which closes none here.
		fail(api.ErrChar, p.at)
	}
	return x
}

// expr reads concatenations and intersections of them, separated by bars.
func (p *parser) expr() part { return p.list('|', p.conj, regex.Alt) }

// conj reads concatenations, separated by ampersands.
func (p *parser) conj() part { return p.list('&', p.concat, regex.And) }

// list reads one or more parts, separated by the given byte.
func (p *parser) list(separator byte, read func() part, put func(l ...api.Re) api.Re) part {
	l := []part{read()}
	for p.take(separator) {
		l = append(l, read())
	}
	return join(l, put)
}

// concat reads any number of parts that stand in a row.
func (p *parser) concat() part {
	var l []part
	for p.at < len(p.s) && strings.IndexByte("|&)", p.s[p.at]) < 0 {
		l = append(l, p.unary())
	}
	return join(l, regex.Cat)
}

// unary reads an atom with the complements ahead of it and the repetitions behind it.
func (p *parser) unary() part {
	complements := 0
	for p.take('!') {
		complements++
	}
	x := p.postfix(p.atom())
	for range complements {
		x = x.not()
	}
	return x
}

// postfix reads the repetitions of x.
func (p *parser) postfix(x part) part {
	for p.at < len(p.s) {
		low, high := 0, 1
		switch p.s[p.at] {
		case '*':
			p.at++
			x = x.star()
		case '+':
			low, high = 1, -1
			fallthrough
		case '?':
			p.at++
			x = x.times(low, high)
		case '{':
			x = x.times(p.bounds())
		default:
			return x
		}
	}
	return x
}

// bounds reads the numbers of a repetition in braces. The second one is -1 if there is no upper bound.
func (p *parser) bounds() (low, high int) {
	start := p.at
	inside, _, closed := strings.Cut(p.s[start+1:], "}")
	first, second, isPair := strings.Cut(inside, ",")
	if !closed || !isDecimal(first) || second != "" && !isDecimal(second) {
		fail(api.ErrForm, start)
	}
	p.at += len("{") + len(inside) + len("}")
	low = numberAt(first, start)
	switch {
	case !isPair:
		return low, low
	case second == "":
		return low, -1
	}
	high = numberAt(second, start)
	if low > high {
		fail(api.ErrRange, start)
	}
	return low, high
}

// isDecimal reports whether s consists of one or more digits.
func isDecimal(s string) bool { return s != "" && strings.Trim(s, "0123456789") == "" }

// numberAt returns the number of the digits, which stand in the repetition at offset at.
func numberAt(digits string, at int) int {
	n, err := strconv.Atoi(digits)
	if err != nil || n > api.MaxTimes || digits[0] == '0' && digits != "0" {
		fail(api.ErrNumber, at)
	}
	return n
}

// atom reads a group, a class, a dot, an escape or an ordinary rune.
func (p *parser) atom() part {
	p.goOn()
	switch p.s[p.at] {
	case '(':
		return p.group()
	case '[':
		return leaf(p.class())
	case '.':
		p.at++
		return leaf(allButNewline())
	}
	return leaf(one(p.char("!&)*+?]{|}")))
}

// group reads an expression in parentheses.
func (p *parser) group() part {
	if len(p.open) == api.MaxDeep {
		fail(api.ErrDeep, p.at)
	}
	p.enter()
	x := p.expr()
	p.goOn()
	p.leave()
	return x
}

// class reads a class.
func (p *parser) class() api.Set {
	p.enter()
	negated := p.take('^')
	var l []api.Range
	for p.goOn(); p.s[p.at] != ']'; p.goOn() {
		l = append(l, p.span())
	}
	p.leave()
	if negated {
		return charset.Not(l)
	}
	return charset.Of(l...)
}

// span reads a char of a class or two that bound a range.
func (p *parser) span() api.Range {
	const banned = `-[]`
	start := p.at
	low := p.char(banned)
	if !p.take('-') {
		return api.Range{Lo: low, Hi: low}
	}
	high := p.char(banned)
	if high < low {
		fail(api.ErrClass, start)
	}
	return api.Range{Lo: low, Hi: high}
}

// char reads an escape or a rune that is none of the banned ones.
func (p *parser) char(banned string) rune {
	p.goOn()
	if p.s[p.at] == '\\' {
		return p.escape()
	}
	c, n := utf8.DecodeRuneInString(p.s[p.at:])
	if c == utf8.RuneError && n == 1 || strings.ContainsRune(banned, c) {
		fail(api.ErrChar, p.at)
	}
	p.at += n
	return c
}

// escape reads an escape.
func (p *parser) escape() rune {
	start := p.at
	if start+1 == len(p.s) {
		fail(api.ErrForm, start)
	}
	p.at += 2
	switch c := p.s[start+1]; c {
	case 'n':
		return '\n'
	case 'r':
		return '\r'
	case 't':
		return '\t'
	case 'u':
		return p.code(start)
	default:
		if strings.IndexByte(escapable, c) < 0 {
			fail(api.ErrForm, start)
		}
		return rune(c)
	}
}

// code reads the hexadecimal digits in braces of the escape that starts at offset start.
func (p *parser) code(start int) rune {
	inside, _, closed := strings.Cut(p.s[p.at:], "}")
	digits, opened := strings.CutPrefix(inside, "{")
	n, err := strconv.ParseUint(digits, 16, 32)
	if !opened || !closed || len(digits) > 6 || err != nil {
		fail(api.ErrForm, start)
	}
	if n > api.MaxRune {
		fail(api.ErrClass, start)
	}
	p.at += len(inside) + len("}")
	return rune(n)
}

// take reads the byte c if it stands here, and reports whether it does.
func (p *parser) take(c byte) bool {
	if p.at == len(p.s) || p.s[p.at] != c {
		return false
	}
	p.at++
	return true
}

// enter reads the opening bracket that stands here.
func (p *parser) enter() {
	p.open = append(p.open, p.at)
	p.at++
}

// leave reads the closing bracket that stands here.
func (p *parser) leave() {
	p.open = p.open[:len(p.open)-1]
	p.at++
}

// goOn fails if s ends here.
func (p *parser) goOn() {
	if p.at < len(p.s) {
		return
	}
	if n := len(p.open); n > 0 {
		fail(api.ErrUnterminated, p.open[n-1])
	}
	fail(api.ErrEnd, p.at)
}
