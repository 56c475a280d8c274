package regex

import (
	"slices"

	"arborist/api"
	"arborist/charset"
)

// Lit returns the expression that matches exactly s.
func Lit(s string) api.Re {
	var l []api.Re
	for _, r := range s {
		l = append(l, OfSet(api.Set{{Lo: r, Hi: r}}))
	}
	return Cat(l...)
}

// OfSet returns the expression that matches each rune of s, or ReNone if s is not valid.
func OfSet(s api.Set) api.Re {
	if len(s) == 0 || !charset.Right(s) {
		return node(api.ReNone)
	}
	return api.Re{Kind: api.ReSet, Set: slices.Clone(s)}
}

// Cat returns the normal form of the concatenation of l.
func Cat(l ...api.Re) api.Re {
	var parts []api.Re
	flatten(api.ReCat, l, func(r api.Re) { parts = append(parts, r) })
	return join(api.ReCat, node(api.ReEps), node(api.ReNone), parts)
}

// Alt returns the normal form of the union of l.
func Alt(l ...api.Re) api.Re {
	return join(api.ReAlt, node(api.ReNone), all(), sorted(api.ReAlt, l, charset.Union))
}

// And returns the normal form of the intersection of l.
func And(l ...api.Re) api.Re {
	return join(api.ReAnd, all(), node(api.ReNone), sorted(api.ReAnd, l, func(sets ...api.Set) api.Set {
		// The complement of the complements' union: to meet the sets one by one would visit the growing result for each of them.
		var gaps []api.Set
		for _, s := range sets {
			gaps = append(gaps, charset.Not(s))
		}
		return charset.Not(charset.Union(gaps...))
	}))
}

// Not returns the normal form of the complement of r.
func Not(r api.Re) api.Re {
	// An expression that is not valid may be a ReNot without a Kid.
	if r.Kind == api.ReNot && hasRightCount(r) {
		return clone(r.Kids[0])
	}
	return node(api.ReNot, r)
}

// Star returns the normal form of any number of repetitions of r.
func Star(r api.Re) api.Re {
	switch r.Kind {
	case api.ReNone, api.ReEps:
		return node(api.ReEps)
	case api.ReStar:
		return clone(r)
	}
	return node(api.ReStar, r)
}

// Times returns an expression for low to high repetitions of r, or for low and more if high is -1. It returns ErrRange if the numbers are out of bounds, or the error that Right returns for r or for the result.
func Times(r api.Re, low, high int) (api.Re, api.Errno) {
	if !areTimes(low, high) {
		return api.Re{}, api.ErrRange
	}
	if e := Right(r); e != api.OK {
		return api.Re{}, e
	}
	l := slices.Repeat([]api.Re{r}, low)
	if high == -1 {
		l = append(l, Star(r))
	} else {
		optional := Alt(node(api.ReEps), r)
		l = append(l, slices.Repeat([]api.Re{optional}, high-low)...)
	}
	x := Cat(l...)
	if e := Right(x); e != api.OK {
		return api.Re{}, e
	}
	return x, api.OK
}

// areTimes reports whether low and high bound a number of repetitions.
func areTimes(low, high int) bool {
	if low < 0 || low > api.MaxTimes {
		return false
	}
	return high == -1 || low <= high && high <= api.MaxTimes
}

// flatten hands the expressions of l to take, from left to right, but instead of each one of the given kind its Kids, recursively.
func flatten(kind api.ReKind, l []api.Re, take func(r api.Re)) {
	for _, r := range l {
		if r.Kind == kind {
			flatten(kind, r.Kids, take)
		} else {
			take(r)
		}
	}
}

// sorted flattens l by the given kind, replaces the sets by the one that merge makes of them, sorts what it has then and removes duplicates. The result is a list of its own, but its elements share memory with l.
func sorted(kind api.ReKind, l []api.Re, merge func(sets ...api.Set) api.Set) []api.Re {
	var parts []api.Re
	var sets []api.Set
	flatten(kind, l, func(r api.Re) {
		if r.Kind == api.ReSet {
			sets = append(sets, r.Set)
		} else {
			parts = append(parts, r)
		}
	})
	if len(sets) > 0 {
		parts = append(parts, OfSet(merge(sets...)))
	}
	slices.SortFunc(parts, compare)
	return slices.CompactFunc(parts, Same)
}

// join returns the expression of the given kind with copies of the parts, which may be changed: ruling if it is among them, and otherwise without neutral, which stands for no parts at all.
func join(kind api.ReKind, neutral, ruling api.Re, parts []api.Re) api.Re {
	is := func(x api.Re) func(api.Re) bool {
		return func(r api.Re) bool { return Same(r, x) }
	}
	if slices.ContainsFunc(parts, is(ruling)) {
		return ruling
	}
	switch parts = slices.DeleteFunc(parts, is(neutral)); len(parts) {
	case 0:
		return neutral
	case 1:
		return clone(parts[0])
	}
	return node(kind, parts...)
}

// all returns the expression that matches every text.
func all() api.Re { return node(api.ReNot, node(api.ReNone)) }

// node returns the expression of the given kind with copies of the kids.
func node(kind api.ReKind, kids ...api.Re) api.Re {
	r := api.Re{Kind: kind}
	if len(kids) > 0 {
		r.Kids = make([]api.Re, len(kids))
	}
	for i, kid := range kids {
		r.Kids[i] = clone(kid)
	}
	return r
}

// clone returns a copy of r that shares no memory with it. Empty lists become nil.
func clone(r api.Re) api.Re {
	c := node(r.Kind, r.Kids...)
	c.Set = append(c.Set, r.Set...)
	return c
}
