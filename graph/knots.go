package graph

import (
	"slices"
)

// none is the knot of a thing whose knot isn't known.
const none = -1

// A seeker finds the knots of graphs of as many things, whose arrows are taken
// together. It goes along arrows as deep as it can, and keeps its way by itself, as
// a way may be as long as there are things.
type seeker struct {
	graphs []*Graph
	times  int    // how many things were met
	met    []int  // of each thing as which one it was met, from 1 on; 0 of others
	low    []int  // of each thing as which one the first open one was met that it is known to reach
	path   []step // the way to where it stands
	open   []int  // the things met whose knots aren't known, as they were met
	knots  int    // how many knots are known
	knot   []int  // of each thing its knot, none where it isn't known
	done   []int  // the things whose knots are known, knot by knot
}

// A step stands at a thing, and tells to which ones it is left to go.
type step struct {
	at   int
	left []int
}

// seek finds the knots of graphs, numbered so that no arrow leads from one to
// another one of a greater number.
func seek(n int, graphs ...*Graph) *seeker {
	s := &seeker{
		graphs: graphs,
		met:    make([]int, n),
		low:    make([]int, n),
		knot:   slices.Repeat([]int{none}, n),
	}
	for root := range n {
		if s.met[root] == 0 {
			s.enter(root)
			s.walk()
		}
	}
	return s
}

// walk goes on till the way is gone back whole.
func (s *seeker) walk() {
	for len(s.path) > 0 {
		top := &s.path[len(s.path)-1]
		if len(top.left) == 0 {
			s.leave()
			continue
		}
		to := top.left[0]
		top.left = top.left[1:]
		switch {
		case s.met[to] == 0:
			s.enter(to)
		case s.knot[to] == none:
			s.lower(top.at, s.met[to])
		}
	}
}

// enter goes to a thing that wasn't met.
func (s *seeker) enter(n int) {
	s.times++
	s.met[n], s.low[n] = s.times, s.times
	s.open = append(s.open, n)
	x := step{at: n}
	for _, g := range s.graphs {
		for to := range g.next(n) {
			x.left = append(x.left, to)
		}
	}
	s.path = append(s.path, x)
}

// lower notes that a thing reaches the open one that was met as that.
func (s *seeker) lower(n, met int) {
	s.low[n] = min(s.low[n], met)
}

// leave goes back from a thing of which nothing is left.
func (s *seeker) leave() {
	last := len(s.path) - 1
	n := s.path[last].at
	s.path = s.path[:last]
	if s.low[n] == s.met[n] {
		s.tie(n)
		return
	}
	s.lower(s.path[last-1].at, s.low[n]) // as it reaches one met ahead of it, it isn't the way's first one
}

// tie makes a knot of a thing, and the open ones that were met behind it.
func (s *seeker) tie(n int) {
	for s.knot[n] == none {
		last := len(s.open) - 1
		x := s.open[last]
		s.open = s.open[:last]
		s.knot[x] = s.knots
		s.done = append(s.done, x)
	}
	s.knots++
}

// Knots is things' knots.
func (g *Graph) Knots() ([]int, int) {
	if g == nil {
		return nil, 0
	}
	s := seek(g.Len(), g)
	number := slices.Repeat([]int{none}, s.knots)
	count := 0
	l := make([]int, g.Len())
	for n, k := range s.knot { // rising, so that knots are numbered by their least things
		if number[k] == none {
			number[k] = count
			count++
		}
		l[n] = number[k]
	}
	return l, count
}
