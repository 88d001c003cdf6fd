package graph

import (
	"caltrop/api"
)

// Most is the most marked steps of a way.
func (g *Graph) Most(marks ...[2]int) (int, bool) {
	if g == nil {
		return 0, false
	}
	steps, ok := g.steps(marks)
	if !ok {
		return 0, false
	}
	s := seek(g.Len(), g, steps)
	best := 0
	most := make([]int, s.knots) // of each knot the most from there on
	for _, n := range s.done {   // what it leads to, out of its knot, is done ahead of it
		k := s.knot[n]
		for to := range g.next(n) {
			most[k] = max(most[k], most[s.knot[to]])
		}
		for to := range steps.next(n) {
			if s.knot[to] == k { // the step may be made again
				return 0, false
			}
			most[k] = max(most[k], 1+most[s.knot[to]])
		}
		best = max(best, most[k])
	}
	return best, true
}

// steps is a graph of the same things whose arrows are the marks, if their things
// are there.
func (g *Graph) steps(marks [][2]int) (*Graph, bool) {
	steps, _ := New(g.Len())
	for _, m := range marks {
		if steps.Arrow(m[0], m[1]) != api.OK {
			return nil, false
		}
	}
	return steps, true
}
