package graph

import (
	"iter"
	"slices"
)

// spread goes through all arrows that a way from a thing on may take: those of the
// near things first, and of one thing rising, so that which shortest way is met
// first doesn't hang on a map's order.
func (g *Graph) spread(n int) iter.Seq2[int, int] {
	return func(yield func(from, to int) bool) {
		met := things{n: {}}
		line := []int{n}
		for i := 0; i < len(line); i++ {
			for _, to := range g.From(line[i]) {
				if !yield(line[i], to) {
					return
				}
				if met.add(to) {
					line = append(line, to)
				}
			}
		}
	}
}

// Reach is what is reached from a thing.
func (g *Graph) Reach(n int) []bool {
	if !g.there(n) {
		return nil
	}
	l := make([]bool, g.Len())
	l[n] = true
	for _, to := range g.spread(n) {
		l[to] = true
	}
	return l
}

// Ring tells whether a thing is on a ring.
func (g *Graph) Ring(n int) bool {
	if !g.there(n) {
		return false
	}
	for _, to := range g.spread(n) {
		if to == n {
			return true
		}
	}
	return false
}

// Path is a shortest way.
func (g *Graph) Path(from, to int) ([]int, bool) {
	if !g.there(from) || !g.there(to) {
		return nil, false
	}
	t := g.trail(from, to)
	if !t.has(to) {
		return nil, false
	}
	return t.way(to), true
}

// A trail is of each thing that is met the one just ahead of it; of the first one
// itself.
type trail map[int]int

// has tells whether a thing is met.
func (t trail) has(n int) bool {
	_, ok := t[n]
	return ok
}

// trail is what is met from a thing on, till another one is.
func (g *Graph) trail(from, to int) trail {
	t := trail{from: from}
	for x, y := range g.spread(from) {
		if t.has(to) {
			break
		}
		if !t.has(y) {
			t[y] = x
		}
	}
	return t
}

// way is the things from the first one on to another one.
func (t trail) way(to int) []int {
	l := []int{to}
	for n := to; t[n] != n; n = t[n] {
		l = append(l, t[n])
	}
	slices.Reverse(l)
	return l
}
