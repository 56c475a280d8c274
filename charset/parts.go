package charset

import "arborist/api"

// piece is a range of the universe whose code points are all in the same of the sets that were looked at so far. Pieces of one class are in the same sets; class 0 is that of the code points in none of them.
type piece struct {
	r     api.Range
	class int
}

// pair is a class of one list of pieces and a class of another one.
type pair struct{ a, b int }

// Parts returns the classes of the code points that are in the same sets of l, ordered by their smallest code point, except that the class of those in none of them, if there are any, comes last.
func Parts(l ...api.Set) []api.Set {
	var none api.Set
	var parts []api.Set
	for _, p := range pieces(l) {
		switch {
		case p.class == 0:
			none = append(none, p.r)
		case p.class > len(parts):
			parts = append(parts, api.Set{p.r})
		default:
			parts[p.class-1] = append(parts[p.class-1], p.r)
		}
	}
	if len(none) > 0 {
		parts = append(parts, none)
	}
	return parts
}

// pieces cuts the universe from left to right where the sets of l begin and end. Neighbours have different classes, and the classes from 1 on are numbered in the order of their first pieces.
func pieces(l []api.Set) []piece {
	switch len(l) {
	case 0:
		return piecesOf(nil)
	case 1:
		return piecesOf(l[0])
	}
	// Halving the list keeps the work near the number of ranges: to cut at the sets one by one would visit all pieces for each of them.
	half := len(l) / 2
	return combine(pieces(l[:half]), pieces(l[half:]))
}

// piecesOf cuts the universe where s begins and ends; class 1 is s.
func piecesOf(s api.Set) []piece {
	var l []piece
	walk(s, func(r api.Range, in bool) {
		p := piece{r: r}
		if in {
			p.class = 1
		}
		l = append(l, p)
	})
	return l
}

// combine cuts the universe where a or b does. The class of what two pieces share stands for the pair of their classes.
func combine(a, b []piece) []piece {
	var l []piece
	classes := map[pair]int{{0, 0}: 0}
	for i, j := 0, 0; i < len(a) && j < len(b); {
		x, y := a[i], b[j]
		both := pair{x.class, y.class}
		if _, known := classes[both]; !known {
			classes[both] = len(classes)
		}
		l = append(l, piece{r: overlap(x.r, y.r), class: classes[both]})
		if x.r.Hi <= y.r.Hi {
			i++
		}
		if y.r.Hi <= x.r.Hi {
			j++
		}
	}
	return l
}
