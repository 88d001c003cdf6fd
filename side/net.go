package side

import (
	"iter"
	"slices"

	"caltrop/graph"
)

// A Net is all that some things lead to, themselves among it, as a graph whose
// things are numbered as they were met.
type Net[T comparable] struct {
	things []T
	number map[T]int
	next   [][]int
	graph  *graph.Graph
	knots  []int
}

// Spread is the net of what some things lead to; on hands on what one leads to.
func Spread[T comparable](from []T, on func(x T, each func(to T))) *Net[T] {
	n := &Net[T]{number: map[T]int{}}
	for _, x := range from {
		n.meet(x)
	}
	for i := 0; i < len(n.things); i++ {
		var next []int
		on(n.things[i], func(to T) { next = append(next, n.meet(to)) })
		n.next = append(n.next, next)
	}
	n.draw()
	return n
}

// meet is a thing's number.
func (n *Net[T]) meet(x T) int {
	i, ok := n.number[x]
	if !ok {
		i = len(n.things)
		n.number[x] = i
		n.things = append(n.things, x)
	}
	return i
}

// draw makes the graph, when it is known how many things there are.
func (n *Net[T]) draw() {
	n.graph, _ = graph.New(len(n.things))
	for from, l := range n.next {
		for _, to := range l {
			n.graph.Arrow(from, to)
		}
	}
	n.knots, _ = n.graph.Knots()
}

// Things goes through all things, as they were met.
func (n *Net[T]) Things() iter.Seq[T] {
	return func(yield func(x T) bool) {
		for _, x := range n.things {
			if !yield(x) {
				return
			}
		}
	}
}

// Knot is a thing's knot, and whether it was met.
func (n *Net[T]) Knot(x T) (int, bool) {
	i, ok := n.number[x]
	if !ok {
		return 0, false
	}
	return n.knots[i], true
}

// Tied tells whether two things were met, and lead to one another.
func (n *Net[T]) Tied(x, y T) bool {
	k, ok := n.Knot(x)
	l, too := n.Knot(y)
	return ok && too && k == l
}

// Ring tells whether a thing was met, and is on a ring.
func (n *Net[T]) Ring(x T) bool {
	i, ok := n.number[x]
	return ok && n.graph.Ring(i)
}

// A step is a thing that is met on a walk, and the place of the step ahead of it;
// none of the first one.
type step struct {
	thing, ahead int
}

// none is ahead of a first one.
const none = -1

// walk hands on the steps so far to each thing that is led to from one, the near
// ones first, as long as more is asked for. It takes lists, not the graph: it is
// asked for often, of great nets.
func (n *Net[T]) walk(from int, more func(line []step, at int) bool) {
	met := make([]bool, len(n.things))
	met[from] = true
	line := []step{{from, none}}
	for at := 0; at < len(line) && more(line, at); at++ {
		for _, to := range n.next[line[at].thing] {
			if !met[to] {
				met[to] = true
				line = append(line, step{to, at})
			}
		}
	}
}

// Reach goes through all that a thing leads to, itself among it, if it was met.
func (n *Net[T]) Reach(x T) iter.Seq[T] {
	return func(yield func(x T) bool) {
		if i, ok := n.number[x]; ok {
			n.walk(i, func(line []step, at int) bool { return yield(n.things[line[at].thing]) })
		}
	}
}

// Path is a shortest way from one thing to another one, both ends among it; none
// without one.
func (n *Net[T]) Path(from, to T) []T {
	i, ok := n.number[from]
	k, too := n.number[to]
	if !ok || !too {
		return nil
	}
	var l []T
	n.walk(i, func(line []step, at int) bool {
		if line[at].thing != k {
			return true
		}
		for ; at != none; at = line[at].ahead {
			l = append(l, n.things[line[at].thing])
		}
		return false
	})
	slices.Reverse(l)
	return l
}
