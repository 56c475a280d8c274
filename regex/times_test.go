package regex_test

import (
	"math"
	"testing"

	"arborist/api"
	"arborist/regex"
)

// inBounds reports whether low and high bound a number of repetitions.
func inBounds(low, high int) bool {
	return low >= 0 && low <= 64 && (high == -1 || high >= low && high <= 64)
}

// wantTimes is the second description of Times, for bounds in range and a valid expression: what it forms, whether that exceeds the limits or not.
func wantTimes(r api.Re, low, high int) api.Re {
	var l []api.Re
	for range low {
		l = append(l, r)
	}
	if high == -1 {
		return regex.Cat(append(l, regex.Star(r))...)
	}
	for n := low; n < high; n++ {
		l = append(l, regex.Alt(leaf(api.ReEps), r))
	}
	return regex.Cat(l...)
}

// mustTimes holds Times against its second description.
func mustTimes(t *testing.T, r api.Re, low, high int) {
	t.Helper()
	got, e := regex.Times(r, low, high)
	want := wantTimes(r, low, high)
	no := regex.Right(want)
	if no != api.OK {
		want = api.Re{}
	}
	if !equal(got, want) || e != no {
		t.Errorf("Times(%v, %d, %d) = %v, %d, want %v, %d", show(r), low, high, show(got), e, show(want), no)
	}
}

// Promise P404: copies of the expression are followed by its star or by optional copies.
func TestP404Ordinary(t *testing.T) {
	a, ab, eps, none := set('a', 'a'), of(api.ReCat, set('a', 'a'), set('b', 'b')), leaf(api.ReEps), leaf(api.ReNone)
	maybe := of(api.ReAlt, eps, a)
	for _, c := range []struct {
		r         api.Re
		low, high int
		want      api.Re
	}{
		{a, 1, 2, of(api.ReCat, a, maybe)},
		{a, 0, 0, eps},
		{a, 1, 1, a},
		{a, 3, 3, of(api.ReCat, a, a, a)},
		{a, 0, 1, maybe},
		{a, 0, 3, of(api.ReCat, maybe, maybe, maybe)},
		{a, 0, -1, of(api.ReStar, a)},
		{a, 1, -1, of(api.ReCat, a, of(api.ReStar, a))},
		{a, 2, -1, of(api.ReCat, a, a, of(api.ReStar, a))},
		{ab, 2, 3, of(api.ReCat, ab.Kids[0], ab.Kids[1], ab.Kids[0], ab.Kids[1], of(api.ReAlt, eps, ab))},
		{maybe, 0, 2, of(api.ReCat, maybe, maybe)},
		{all(), 0, 1, all()},
		{none, 0, -1, eps},
		{none, 0, 5, eps},
		{none, 1, 5, none},
		{eps, 7, 9, eps},
		{eps, 64, -1, eps},
		{of(api.ReStar, a), 1, -1, of(api.ReCat, of(api.ReStar, a), of(api.ReStar, a))},
	} {
		if got, e := regex.Times(c.r, c.low, c.high); !equal(got, c.want) || e != api.OK {
			t.Errorf("Times(%v, %d, %d) = %v, %d, want %v", show(c.r), c.low, c.high, show(got), e, show(c.want))
		}
	}
}

// Promise P404: bounds out of range are told ahead of the errors of the expression.
func TestP404Bounds(t *testing.T) {
	a := set('a', 'a')
	invalid := of(api.ReCat, leaf(api.ReSet))
	numbers := []int{math.MinInt, math.MinInt + 1, -65, -3, -2}
	for n := -1; n <= 66; n++ {
		numbers = append(numbers, n)
	}
	numbers = append(numbers, 1<<32, 1<<32+1, math.MaxInt-1, math.MaxInt)
	for _, low := range numbers {
		for _, high := range numbers {
			if inBounds(low, high) {
				mustTimes(t, a, low, high)
				if got, e := regex.Times(invalid, low, high); e != api.ErrCount || !equal(got, api.Re{}) {
					t.Errorf("Times(%v, %d, %d) = %v, %d", show(invalid), low, high, show(got), e)
				}
				continue
			}
			for _, r := range []api.Re{a, invalid} {
				if got, e := regex.Times(r, low, high); e != api.ErrRange || !equal(got, api.Re{}) {
					t.Errorf("Times(%v, %d, %d) = %v, %d", show(r), low, high, show(got), e)
				}
			}
		}
	}
}

// Promise P404: all expressions of the pool, repeated by numbers from small to the greatest ones.
func TestP404AllExpressions(t *testing.T) {
	for _, r := range tame() {
		for _, low := range []int{0, 1, 2, 3, 63, 64} {
			for _, high := range []int{-1, 0, 1, 2, 4, 63, 64} {
				if inBounds(low, high) {
					mustTimes(t, r, low, high)
				}
			}
		}
	}
}

// Promise P404: the error of the expression comes next, even where no copy of it would remain.
func TestP404WrongExpression(t *testing.T) {
	for _, r := range append(wild(), huge()...) {
		for _, bounds := range [][2]int{{0, 0}, {0, -1}, {0, 1}, {1, 1}, {2, 5}} {
			e := regex.Right(r)
			if e == api.OK {
				mustTimes(t, r, bounds[0], bounds[1])
				continue
			}
			if got, no := regex.Times(r, bounds[0], bounds[1]); no != e || !equal(got, api.Re{}) {
				t.Errorf("Times(%v, %v) = %v, %d, want %d", show(r), bounds, show(got), no, e)
			}
		}
	}
}

// Promise P404: a result with more than MaxRe nodes is refused, and one that is deeper than MaxDeep; those at the limits are not.
func TestP404Limits(t *testing.T) {
	a := set('a', 'a')
	star := func(n int) api.Re { return chain(api.ReStar, n-1, a) }
	for _, c := range []struct {
		name      string
		r         api.Re
		low, high int
		want      api.Errno
	}{
		// 1 + 63 * 65 nodes are 4096, and 1 + 64 * 65 are 4161.
		{"63 copies of 65 nodes", wide(api.ReAlt, 64), 63, 63, api.OK},
		{"64 copies of 65 nodes", wide(api.ReAlt, 64), 64, 64, api.ErrLong},
		{"63 to 64 copies of 63 nodes", wide(api.ReCat, 62), 63, 64, api.OK},
		{"64 optional copies of 62 nodes", wide(api.ReAnd, 61), 0, 64, api.ErrLong},
		{"64 optional copies of 61 nodes", wide(api.ReAnd, 60), 0, 64, api.OK},
		{"the star of 4096 nodes", wide(api.ReAlt, api.MaxRe-1), 0, -1, api.ErrLong},
		{"the star of 4095 nodes", wide(api.ReAlt, api.MaxRe-2), 0, -1, api.OK},
		{"4096 nodes once", wide(api.ReAlt, api.MaxRe-1), 1, 1, api.OK},
		{"4096 nodes twice", wide(api.ReAlt, api.MaxRe-1), 2, 2, api.ErrLong},
		{"4096 nodes never", wide(api.ReAlt, api.MaxRe-1), 0, 0, api.OK},
		{"4096 nodes, 64 times", wide(api.ReAlt, api.MaxRe-1), 64, 64, api.ErrLong},
		{"depth 100 once", star(100), 1, 1, api.OK},
		{"depth 100 twice", star(100), 2, 2, api.ErrDeep},
		{"depth 99 twice", star(99), 2, 2, api.OK},
		{"depth 99, optional", star(99), 0, 1, api.OK},
		{"depth 99, twice optional", star(99), 0, 2, api.ErrDeep},
		{"depth 98, twice optional", star(98), 0, 2, api.OK},
		{"depth 100, starred for the first time", chain(api.ReNot, api.MaxDeep-1, a), 0, -1, api.ErrDeep},
		{"depth 99, starred for the first time", chain(api.ReNot, api.MaxDeep-2, a), 0, -1, api.OK},
		{"depth 98, once and starred", chain(api.ReNot, api.MaxDeep-3, a), 1, -1, api.OK},
		{"depth 99, once and starred", chain(api.ReNot, api.MaxDeep-2, a), 1, -1, api.ErrDeep},
	} {
		got, e := regex.Times(c.r, c.low, c.high)
		if e != c.want || e != api.OK && !equal(got, api.Re{}) {
			t.Errorf("Times of %s is %v, %d, want %d", c.name, show(got), e, c.want)
		}
		mustTimes(t, c.r, c.low, c.high)
	}
}
