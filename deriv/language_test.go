package deriv_test

import (
	"testing"

	"arborist/api"
	"arborist/deriv"
)

// by is the repeated derivative of r by the code points of w.
func by(r api.Re, w []rune) api.Re {
	for _, c := range w {
		r = deriv.By(r, c)
	}
	return r
}

// Promise P605: a word is matched if and only if the repeated derivative by its code points matches the empty text.
func TestP605Derivatives(t *testing.T) {
	all := words(4, 'a', 'b', 0xe9)
	for _, r := range pool() {
		for _, w := range all {
			want := matches(r, w)
			mustAgree(t, "Empty of the derivatives", r, w, deriv.Empty(by(r, w)), want)
			mustAgree(t, "Match", r, w, first(deriv.Match(r, string(w))), want)
		}
	}
}

// Promise P605: it holds for long words too, where derivatives by the same classes come again and again.
func TestP605LongWords(t *testing.T) {
	text := letters(300)
	for _, r := range append(tame(), far(3), of(api.ReStar, far(2)), of(api.ReAnd, far(4), of(api.ReNot, far(3)))) {
		d := r
		for i, c := range text {
			mustAgree(t, "Match", r, []rune(text[:i]), first(deriv.Match(r, text[:i])), deriv.Empty(d))
			d = deriv.By(d, c)
		}
	}
}

// Promise P605: repeated derivatives stay small, as what they have in common is put together.
func TestP605Growth(t *testing.T) {
	a, b, ab, eps := one('a'), one('b'), set('a', 'b'), leaf(api.ReEps)
	star := func(r api.Re) api.Re { return of(api.ReStar, r) }
	for _, r := range []api.Re{
		far(8), star(far(8)), star(star(far(6))), star(of(api.ReCat, star(far(5)), b, star(far(6)))), star(of(api.ReAlt, a, times(a, 2), times(ab, 3))),
		times(of(api.ReAlt, eps, a), 64), times(star(ab), 64), of(api.ReCat, star(of(api.ReCat, star(a), star(b))), far(4)),
		star(of(api.ReCat, cycles(2, 3, 5, 7), a)), star(of(api.ReAnd, far(3), of(api.ReNot, far(4)))), of(api.ReCat, of(api.ReNot, far(3)), a, of(api.ReNot, far(2))),
	} {
		d := r
		for _, c := range letters(400) {
			d = deriv.By(d, c)
			if n := size(d); n > 20*size(r) {
				t.Fatalf("a derivative of the %d nodes of %v has %d nodes", size(r), show(r), n)
			}
		}
	}
}

// Promise P606: the derivatives by the code points of one class are the same language.
func TestP606Classes(t *testing.T) {
	all := words(3, 'a', 'b', 0xe9)
	for _, r := range pool() {
		for _, class := range deriv.Parts(r) {
			want := deriv.By(r, class[0].Lo)
			for _, q := range class {
				for _, c := range []rune{q.Lo, (q.Lo + q.Hi) / 2, q.Hi} {
					got := deriv.By(r, c)
					for _, w := range all {
						mustAgree(t, "By of a class", r, append([]rune{c}, w...), matches(got, w), matches(want, w))
					}
				}
			}
		}
	}
}
