package dfa

import "arborist/api"

// Lists returns the number of lists that were told apart to find the DFA of l. Lists that match nothing are not counted, but for l itself.
func Lists(l ...api.Re) int {
	m, _ := explore(l)
	return len(m.all)
}
