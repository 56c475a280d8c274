package dfa

import (
	"cmp"
	"slices"
	"strconv"

	"arborist/api"
	"arborist/charset"
)

// part is an expression of a list that can match something still, with its index.
type part struct {
	index int
	x     *node
}

// lists are the lists of expressions to which a list leads, in the order in which they were found. Expressions that match nothing are left out.
type lists struct {
	*store
	all   [][]part
	known map[string]int
	text  []byte
}

// explore returns the lists to which l leads, and a DFA, not minimal, whose states they are. If they have become too much, the DFA is not whole.
func explore(l []api.Re) (*lists, api.Dfa) {
	m := &lists{store: newStore(), known: map[string]int{}}
	var first []part
	for i, r := range l {
		first = m.with(first, part{index: i, x: m.take(r)})
	}
	m.number(first)
	var d api.Dfa
	for i := 0; i < len(m.all) && !m.areTooMuch(); i++ {
		d.States = append(d.States, m.state(m.all[i]))
	}
	return m, d
}

// areTooMuch reports whether the lists are more than must be found, and too costly.
func (m *lists) areTooMuch() bool {
	const sure, most = 200, 1 << 23
	return len(m.all) > sure && m.work > most
}

// with returns l with x behind it, unless x matches nothing.
func (m *lists) with(l []part, x part) []part {
	if x.x == m.None {
		return l
	}
	return append(l, x)
}

// number returns the number of the list l. It keeps l.
func (m *lists) number(l []part) int {
	m.text = m.text[:0]
	for _, x := range l {
		m.text = strconv.AppendInt(append(m.text, ' '), int64(x.index), 10)
		m.text = strconv.AppendInt(append(m.text, ':'), int64(x.x.Number), 10)
	}
	n, known := m.known[string(m.text)]
	if !known {
		n = len(m.all)
		m.known[string(m.text)] = n
		m.all = append(m.all, l)
	}
	return n
}

// state returns the state of the list l. If it has become too much, arcs may be missing.
func (m *lists) state(l []part) api.DfaState {
	s := api.DfaState{Out: -1}
	if i := slices.IndexFunc(l, func(x part) bool { return x.x.Empty }); i >= 0 {
		s.Out = l[i].index
	}
	for _, class := range charset.Parts(m.firsts(l)...) {
		if m.areTooMuch() {
			break
		}
		next := m.list(l, class[0].Lo)
		m.work += len(l) + len(class)
		if len(next) == 0 {
			continue
		}
		to := m.number(next)
		for _, q := range class {
			s.Arcs = append(s.Arcs, api.DfaArc{Lo: q.Lo, Hi: q.Hi, To: to})
		}
	}
	slices.SortFunc(s.Arcs, func(a, b api.DfaArc) int { return cmp.Compare(a.Lo, b.Lo) })
	return s
}

// list returns the standard derivative of the list l by c.
func (m *lists) list(l []part, c rune) []part {
	var next []part
	for _, x := range l {
		next = m.with(next, part{index: x.index, x: m.by(x.x, c)})
	}
	return next
}

// firsts returns the sets that tell apart the runes by which l has different derivatives.
func (m *lists) firsts(l []part) []api.Set {
	var sets []api.Set
	seen := map[int]struct{}{}
	var walk func(x *node)
	walk = func(x *node) {
		if _, done := seen[x.Number]; done {
			return
		}
		seen[x.Number] = struct{}{}
		switch x.Kind {
		case api.ReSet:
			sets = append(sets, x.Set)
			m.work += len(x.Set)
		case api.ReCat, api.ReAlt:
			for _, b := range m.branches(x) {
				walk(b.head)
			}
		default:
			for _, kid := range x.Kids {
				walk(kid)
			}
		}
	}
	for _, x := range l {
		walk(x.x)
	}
	return sets
}
