package resyntax_test

import (
	"regexp"
	"slices"
	"strings"
	"testing"

	"arborist/api"
	"arborist/charset"
	"arborist/regex"
	"arborist/resyntax"
)

// mustBe tells if Read does not answer r for s, or r is not valid.
func mustBe(t *testing.T, s string, r api.Re) {
	t.Helper()
	if got := mustRead(t, s); !equal(got, r) {
		t.Errorf("Read(%q) = %v, want %v", cut(s), got, r)
	}
	if e := regex.Right(r); e != api.OK {
		t.Errorf("what is wanted for %q is not valid: %d", cut(s), e)
	}
}

// times is what the constructor makes of r and the bounds.
func times(r api.Re, low, high int) api.Re {
	x, e := regex.Times(r, low, high)
	if e != api.OK {
		panic("no repetition")
	}
	return x
}

// Promise P503: each construct is what its constructor makes of its parts.
func TestP503Constructs(t *testing.T) {
	a, b, c, eps, none := one('a'), one('b'), one('c'), leaf(api.ReEps), leaf(api.ReNone)
	dot := set(0, 9, 11, maxRune)
	for s, r := range map[string]api.Re{
		"": eps, "()": eps, "(())": eps, "()()": eps, "a": a, "(a)": a, "((a))": a, "ab": of(api.ReCat, a, b), "a()b": of(api.ReCat, a, b), "(ab)c": of(api.ReCat, a, b, c), "a(bc)": of(api.ReCat, a, b, c),
		"a|b": set('a', 'b'), "b|a": set('a', 'b'), "a|": of(api.ReAlt, eps, a), "|a": of(api.ReAlt, eps, a), "|": eps, "||": eps, "a|a": a, "ab|": of(api.ReAlt, eps, of(api.ReCat, a, b)), "(|)": eps,
		"a&b": none, "a&": of(api.ReAnd, eps, a), "&": eps, "[ab]&[bc]": b, "a&a": a, "a|b&c": a, "a&b|c": c, "ab&c": of(api.ReAnd, c, of(api.ReCat, a, b)), "[ab]&b|c": set('b', 'c'), "a&(b|a)": a,
		"!a": of(api.ReNot, a), "!!a": a, "!!!a": of(api.ReNot, a), "!()": of(api.ReNot, eps), "![]": all(), "!ab": of(api.ReCat, of(api.ReNot, a), b), "!(ab)": of(api.ReNot, of(api.ReCat, a, b)), "a!b": of(api.ReCat, a, of(api.ReNot, b)), "!a*": of(api.ReNot, of(api.ReStar, a)), "(!a)*": of(api.ReStar, of(api.ReNot, a)), "!a|b": of(api.ReAlt, b, of(api.ReNot, a)), "!a&b": of(api.ReAnd, b, of(api.ReNot, a)), "![]|a": all(), "![]&a": a,
		"a*": of(api.ReStar, a), "a**": of(api.ReStar, a), "()*": eps, "[]*": eps, "ab*": of(api.ReCat, a, of(api.ReStar, b)), "(ab)*": of(api.ReStar, of(api.ReCat, a, b)), "a|b*": of(api.ReAlt, a, of(api.ReStar, b)),
		"a+": of(api.ReCat, a, of(api.ReStar, a)), "a?": of(api.ReAlt, eps, a), "a*?": of(api.ReAlt, eps, of(api.ReStar, a)), "a?*": of(api.ReStar, of(api.ReAlt, eps, a)), "()?": eps, "[]?": eps, "[]+": none,
		"a{0}": eps, "a{0,0}": eps, "a{1}": a, "a{1,1}": a, "a{3}": of(api.ReCat, a, a, a), "a{0,}": of(api.ReStar, a), "a{2,}": of(api.ReCat, a, a, of(api.ReStar, a)), "a{0,1}": of(api.ReAlt, eps, a), "a{2,3}": of(api.ReCat, a, a, of(api.ReAlt, eps, a)), "a{0,2}": of(api.ReCat, of(api.ReAlt, eps, a), of(api.ReAlt, eps, a)), "a{2}{2}": of(api.ReCat, a, a, a, a), "a{2}*": of(api.ReStar, of(api.ReCat, a, a)), "[]{0}": eps, "[]{2}": none, "ab{2}": of(api.ReCat, a, b, b), "(ab){2}": of(api.ReCat, a, b, a, b),
		".": dot, "[]": none, "[^]": set(0, maxRune), "[^\\n]": dot, "[a]": a, "[ab]": set('a', 'b'), "[a-c]": set('a', 'c'), "[ac-eb]": set('a', 'e'), "[a-ac-d]": set('a', 'a', 'c', 'd'), "[^a]": set(0, '`', 'b', maxRune), "[a-c\\]]": set(']', ']', 'a', 'c'), "[^\\u{0}-\\u{10ffff}]": none, "[^^]": set(0, ']', '_', maxRune), "[a^]": set('^', '^', 'a', 'a'), "[\\^a]": set('^', '^', 'a', 'a'),
		"^": one('^'), "-": one('-'), "/": one('/'), "a-b": of(api.ReCat, a, one('-'), b), "\x00": one(0), "\n": one('\n'), " ": one(' '), "\u00e9": one(0xe9), "\ufffd": one(0xfffd), "\U0010ffff": one(maxRune), "#": one('#'), "\"": one('"'), ",": one(','), "<>:=~": of(api.ReCat, one('<'), one('>'), one(':'), one('='), one('~')),
	} {
		mustBe(t, s, r)
	}
}

// Promise P503: the escapes stand for their runes, in and outside classes.
func TestP503Escapes(t *testing.T) {
	runes := map[string]rune{
		"\\n": 10, "\\r": 13, "\\t": 9, "\\u{0}": 0, "\\u{000000}": 0, "\\u{e9}": 0xe9, "\\u{E9}": 0xe9, "\\u{0000e9}": 0xe9, "\\u{aBcDe}": 0xabcde, "\\u{5d}": ']', "\\u{2d}": '-', "\\u{d800}": 0xd800, "\\u{dfff}": 0xdfff, "\\u{fffd}": 0xfffd, "\\u{10ffff}": maxRune, "\\u{10FFFF}": maxRune, "\\u{a}": 10, "\\u{09}": 9, "\\u{F}": 15, "\\u{7890}": 0x7890,
	}
	for _, c := range `!&()*+-./?[\]^{|}` {
		runes["\\"+string(c)] = c
	}
	for s, c := range runes {
		mustBe(t, s, one(c))
		mustBe(t, "["+s+"]", one(c))
		mustBe(t, "["+s+"-"+s+"]", one(c))
		mustBe(t, "[^"+s+"]", regex.OfSet(charset.Not(bounds(c, c))))
		mustBe(t, s+"*", of(api.ReStar, one(c)))
		mustBe(t, "x"+s+"y", of(api.ReCat, one('x'), one(c), one('y')))
	}
}

// Promise P503: every rune that needs no escape stands for itself, in and outside classes.
func TestP503Runes(t *testing.T) {
	for c := range rune(0x3000) {
		if !strings.ContainsRune(`!&()*+.?[\]{|}`, c) {
			mustBe(t, string(c), one(c))
		}
		if !strings.ContainsRune(`-[\]^`, c) {
			mustBe(t, "["+string(c)+"]", one(c))
		}
		if !strings.ContainsRune(`-[\]`, c) {
			mustBe(t, "[\\n"+string(c)+"-\\u{10fffe}]", regex.OfSet(charset.Of(api.Range{Lo: 10, Hi: 10}, api.Range{Lo: c, Hi: maxRune - 1})))
		}
	}
}

// Promise P503: a class of thousands of ranges in any order is their union.
func TestP503LargeClass(t *testing.T) {
	var b strings.Builder
	var want api.Set
	for c := rune(0x1000); c < 0x5000; c += 3 {
		want = append(want, api.Range{Lo: c, Hi: c + 1})
	}
	for i := range want {
		q := want[(i*1001)%len(want)]
		b.WriteString(string(q.Lo) + string(q.Hi))
	}
	mustBe(t, "["+b.String()+"]", api.Re{Kind: api.ReSet, Set: want})
	mustBe(t, "[^"+b.String()+"]", api.Re{Kind: api.ReSet, Set: charset.Not(want)})
}

// operation is an operation of the syntax.
type operation int

// The operations.
const (
	expr operation = iota
	conj
	concat
	complement
	star
	repetition
)

// sample is an expression with what the document says of it.
type sample struct {
	// text is how it is written, and level is how tightly that holds together: 0 for an expr, 1 for a conj, 2 for a concat, 3 for a complement, 4 for a repetition and 5 for an atom.
	text  string
	level int
	// build is what the constructors make of it.
	build         func() api.Re
	weight, depth int
}

// atoms are samples of one rune, class or empty concat.
func atoms() []sample {
	var l []sample
	for text, r := range map[string]api.Re{"a": one('a'), "\\*": one('*'), ".": set(0, 9, 11, maxRune), "[a-c]": set('a', 'c'), "[^b]": set(0, 'a', 'c', maxRune), "[]": leaf(api.ReNone), "[^]": set(0, maxRune)} {
		l = append(l, sample{text: text, level: 5, build: func() api.Re { return r }, weight: 1, depth: 1})
	}
	slices.SortFunc(l, func(a, b sample) int { return strings.Compare(a.text, b.text) })
	return append(l, sample{text: "", level: 2, build: func() api.Re { return leaf(api.ReEps) }, weight: 1, depth: 1})
}

// at is the text of x where the given level is needed, in parentheses even if it does not need them if more is true.
func (x sample) at(level int, more bool) string {
	if more || x.level < level {
		return "(" + x.text + ")"
	}
	return x.text
}

// sum is the list of the parts l.
func sum(op operation, l []sample, next func(most int) int) sample {
	level := int(op)
	put := []func(...api.Re) api.Re{regex.Alt, regex.And, regex.Cat}[level]
	x := sample{level: level, weight: 1}
	var parts []string
	for _, part := range l {
		parts = append(parts, part.at(level+1, next(8) == 0))
		x.weight += part.weight
		x.depth = max(x.depth, part.depth+1)
	}
	x.text = strings.Join(parts, []string{"|", "&", ""}[level])
	x.build = func() api.Re {
		var kids []api.Re
		for _, part := range l {
			kids = append(kids, part.build())
		}
		return put(kids...)
	}
	return x
}

// bound is what stands behind a repeated expression, what the repetition weighs if the expression weighs w, and what it is.
type bound struct {
	text      string
	low, high int
	weight    func(w int) int
}

// repetitions are repetitions of all kinds.
func repetitions() []bound {
	return []bound{
		{"+", 1, -1, func(w int) int { return 2*w + 2 }},
		{"?", 0, 1, func(w int) int { return w + 3 }},
		{"{0}", 0, 0, func(w int) int { return w }},
		{"{1}", 1, 1, func(w int) int { return w + 1 }},
		{"{2}", 2, 2, func(w int) int { return 2*w + 1 }},
		{"{10}", 10, 10, func(w int) int { return 10*w + 1 }},
		{"{64}", 64, 64, func(w int) int { return 64*w + 1 }},
		{"{0,}", 0, -1, func(w int) int { return w + 2 }},
		{"{3,}", 3, -1, func(w int) int { return 4*w + 2 }},
		{"{64,}", 64, -1, func(w int) int { return 65*w + 2 }},
		{"{0,0}", 0, 0, func(w int) int { return w }},
		{"{1,1}", 1, 1, func(w int) int { return w + 1 }},
		{"{2,5}", 2, 5, func(w int) int { return 1 + 2*w + 3*(w+2) }},
		{"{0,64}", 0, 64, func(w int) int { return 1 + 64*(w+2) }},
		{"{63,64}", 63, 64, func(w int) int { return 1 + 63*w + (w + 2) }},
	}
}

// repeat is the repetition of x.
func repeat(x sample, b bound, more bool) sample {
	build := func() api.Re {
		r, _ := regex.Times(x.build(), b.low, b.high)
		return r
	}
	return sample{text: x.at(4, more) + b.text, level: 4, build: build, weight: b.weight(x.weight), depth: x.depth + 2}
}

// combine puts samples from the list together by numbers that look random.
func combine(l []sample, next func(most int) int) sample {
	pick := func() sample {
		if next(3) == 0 {
			return l[next(8)]
		}
		return l[next(len(l))]
	}
	switch op := min(operation(next(8)), repetition); op {
	case expr, conj, concat:
		parts := []sample{pick(), pick()}
		for next(2) == 0 {
			parts = append(parts, pick())
		}
		return sum(op, parts, next)
	case complement:
		x := pick()
		return sample{text: "!" + x.at(3, next(4) == 0), level: 3, build: func() api.Re { return regex.Not(x.build()) }, weight: x.weight + 1, depth: x.depth + 1}
	case star:
		x := pick()
		return sample{text: x.at(4, next(4) == 0) + "*", level: 4, build: func() api.Re { return regex.Star(x.build()) }, weight: x.weight + 1, depth: x.depth + 1}
	default:
		return repeat(pick(), repetitions()[next(15)], next(4) == 0)
	}
}

// samples are n samples.
func samples(n int) []sample {
	parts := atoms()
	for _, x := range atoms() {
		for _, b := range repetitions() {
			parts = append(parts, repeat(x, b, false))
		}
	}
	l := slices.Clone(parts)
	next := numbers(3)
	for len(l) < n {
		x := combine(parts, next)
		l = append(l, x)
		// What is too large to be read becomes a part of others too, but so seldom that most others are not too large.
		if x.weight <= api.MaxRe && len(x.text) < 1000 || next(3) == 0 && x.weight < 1<<40 && len(x.text) < 5000 {
			parts = append(parts, x)
		}
	}
	return l
}

// Promise P503: what Read answers is what the constructors make of the parts. Promise P502: it refuses what weighs more than MaxRe, and then what is deeper than MaxDeep.
func TestP503Samples(t *testing.T) {
	heavy, light := 0, 0
	for _, x := range samples(6000) {
		switch {
		case x.weight > api.MaxRe:
			heavy++
			mustFail(t, x.text, api.ErrLong, 0)
		case x.depth > api.MaxDeep:
			mustFail(t, x.text, api.ErrDeep, 0)
		default:
			light++
			mustBe(t, x.text, x.build())
		}
	}
	if heavy < 200 || light < 3000 {
		t.Errorf("%d samples are too heavy, and %d are not", heavy, light)
	}
}

// Promise P502: an expression of the weight MaxRe is read, and one that weighs more is not.
func TestP502Weight(t *testing.T) {
	a := func(n int) string { return strings.Repeat("a", n) }
	for _, x := range []struct {
		s      string
		weight int
	}{
		{a(api.MaxRe - 1), api.MaxRe}, {a(api.MaxRe), api.MaxRe + 1}, {strings.Repeat("a|", api.MaxRe-2) + "a", api.MaxRe}, {strings.Repeat("|", api.MaxRe-2), api.MaxRe}, {strings.Repeat("&", api.MaxRe-1), api.MaxRe + 1}, {strings.Repeat("()", api.MaxRe-1), api.MaxRe}, {strings.Repeat("[^a-z]", api.MaxRe), api.MaxRe + 1}, {strings.Repeat("((.))", api.MaxRe-1), api.MaxRe},
		{"(" + a(62) + "){63}" + a(4096-3971), 1 + 1 + 63*63 + 4096 - 3971}, {"(" + a(62) + "){63}" + a(4096-3971+1), api.MaxRe + 2},
		{"a{64}{63}", 1 + 63*65}, {"a{64}{63}{1}", 2 + 63*65}, {"a{64}{64}", 1 + 64*65}, {"(a{64}{63}){0}", 1 + 63*65}, {"(a{64}{64}){0}", 1 + 64*65}, {"(a{64}{64}){0,0}", 1 + 64*65}, {"(a{64}{64}){1}", 2 + 64*65}, {"(a{64}{64}){0,1}", 4 + 64*65},
		{"(" + a(2046) + ")+", 2*2047 + 2}, {"(" + a(2047) + ")+", 2*2048 + 2}, {"(" + a(2045) + ")+", 2*2046 + 2}, {"(" + a(4092) + ")?", 4093 + 3}, {"(" + a(4093) + ")?", 4094 + 3}, {"(" + a(4094) + ")*", 4096}, {"(" + a(4095) + ")*", 4097}, {"!(" + a(4094) + ")", 4096}, {"!(" + a(4095) + ")", 4097},
		{"(" + a(61) + "){0,64}", 1 + 64*(62+2)}, {"(" + a(60) + "){0,64}", 1 + 64*(61+2)}, {"(" + a(62) + "){64,}", 2 + 65*63}, {"(" + a(61) + "){64,}", 2 + 65*62}, {"(" + a(62) + "){32,64}", 1 + 32*63 + 32*65}, {"(" + a(61) + "){32,64}", 1 + 32*62 + 32*64},
	} {
		if x.weight > api.MaxRe {
			mustFail(t, x.s, api.ErrLong, 0)
		} else if e := regex.Right(mustRead(t, x.s)); e != api.OK {
			t.Errorf("Read(%q) is not valid: %d", cut(x.s), e)
		}
	}
}

// Promise P502: weights far beyond all numbers are too heavy too, and end at once; what is too heavy is not told to be too deep.
func TestP502Heavy(t *testing.T) {
	mustAllFail(t, []wrong{
		{"a" + strings.Repeat("{64}", 16000), api.ErrLong, 0}, {"a" + strings.Repeat("{64,}", 10), api.ErrLong, 0}, {"a" + strings.Repeat("{0,64}", 11), api.ErrLong, 0}, {"a" + strings.Repeat("{64}", 11) + "{0}", api.ErrLong, 0}, {"a" + strings.Repeat("+", 60000), api.ErrLong, 0}, {"a" + strings.Repeat("*", 60000), api.ErrLong, 0}, {"a" + strings.Repeat("?", 60000), api.ErrLong, 0}, {strings.Repeat("!", 60000) + "a", api.ErrLong, 0}, {strings.Repeat("(", 50) + "a" + strings.Repeat("{64})", 50), api.ErrLong, 0}, {"a" + strings.Repeat("*", api.MaxRe), api.ErrLong, 0},
		{strings.Repeat("(a{64}{64}{64})", 4000), api.ErrLong, 0}, {strings.Repeat("a", api.MaxText), api.ErrLong, 0}, {strings.Repeat("|", api.MaxText), api.ErrLong, 0}, {"a" + strings.Repeat("{64}", 16000) + "*)", api.ErrChar, 64002},
	})
}

// Promise P502: an expression of the depth MaxDeep is read, and a deeper one is not, even if what it stands for is not that deep.
func TestP502Depth(t *testing.T) {
	repeat := strings.Repeat
	var mixed, conjs string
	for range 99 {
		mixed, conjs = "("+mixed+"|b)c", "(a"+conjs+")&c"
	}
	for _, x := range []struct {
		s     string
		depth int
	}{
		{"a" + repeat("*", 99), 100}, {"a" + repeat("*", 100), 101}, {repeat("!", 99) + "a", 100}, {repeat("!", 100) + "a", 101}, {repeat("!", 50) + "a" + repeat("*", 49), 100}, {repeat("!", 50) + "a" + repeat("*", 50), 101},
		{"a" + repeat("?", 49), 99}, {"a" + repeat("?", 49) + "*", 100}, {"a" + repeat("?", 50), 101}, {"a" + repeat("{1}", 49), 99}, {"a" + repeat("{1}", 50), 101}, {"a" + repeat("{0}", 50), 101}, {"a" + repeat("{0,}", 49) + "*", 100}, {"a" + repeat("{0,}", 50), 101}, {"a" + repeat("{1,1}", 50), 101}, {"a" + repeat("?", 47) + repeat("+", 2), 99}, {"a" + repeat("?", 48) + repeat("+", 2), 101},
		{repeat("(", 99) + "a" + repeat("b)", 99), 100}, {repeat("(", 100) + "a" + repeat("b)", 100), 101}, {repeat("(", 99) + "a" + repeat("|b)", 99), 100}, {repeat("(", 100) + "a" + repeat("&b)", 100), 101}, {repeat("(", 100) + "a" + repeat(")", 100), 1}, {repeat("(", 100) + "a" + repeat(")*", 99) + ")", 100}, {repeat("(", 100) + "a" + repeat(")*", 100), 101},
		{repeat("(b", 99) + "a" + repeat(")", 99), 100}, {repeat("(b|", 100) + "a" + repeat(")", 100), 101}, {"b|c" + repeat("!", 98) + "a", 101}, {"b|" + repeat("!", 98) + "a", 100}, {mixed, 199}, {conjs, 198}, {"()" + repeat("*", 100), 101}, {"[]" + repeat("*", 100), 101},
	} {
		if x.depth > api.MaxDeep {
			mustFail(t, x.s, api.ErrDeep, 0)
		} else if e := regex.Right(mustRead(t, x.s)); e != api.OK {
			t.Errorf("Read(%q) is not valid: %d", cut(x.s), e)
		}
	}
}

// Promise P503: for texts that mean the same elsewhere, what Read answers matches what the library's regular expressions match.
func TestP503Library(t *testing.T) {
	all := words(3, 'a', 'b', '\n')
	count := 0
	for _, s := range append(texts(6, "", "a", "b", "(", ")", "|", "*"), texts(4, "", "a", "(b", ")", "|", "*", "+", "?", "{2}", "{0,1}", "{1,}", ".", "[^a", "[a-", "]", "\\.", "\\n")...) {
		// A question mark behind a repetition means something else there, and more than one repetition is not taken.
		if strings.Contains(s, "+?") || strings.Contains(s, "}?") || strings.Contains(s, "??") || strings.Contains(s, "*?") {
			continue
		}
		r, d := resyntax.Read(s)
		other, err := regexp.Compile(`\A(?:` + s + `)\z`)
		if err != nil || d != (api.Diag{}) {
			continue
		}
		count++
		for _, w := range all {
			if matches(r, w) != other.MatchString(string(w)) {
				t.Errorf("Read(%q) and %q: %v", s, string(w), matches(r, w))
			}
		}
	}
	if count < 10000 {
		t.Errorf("only %d texts were compared", count)
	}
}
