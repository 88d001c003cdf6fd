package backtrack

import (
	"caltrop/nat"
)

// A task is what is still to do: a node, and what comes behind it. Nil is nothing.
type task struct {
	*node
	place int // its first position
	since int // it is done behind this place only
	next  *task
}

// always is a since for what may be done anywhere.
const always = -1

// left is the first one of a node's two, and what is to do behind it.
func (t *task) left(next *task) *task {
	return &task{t.a, t.place, always, next}
}

// right is the second one of a node's two, and what is to do behind it.
func (t *task) right(next *task) *task {
	return &task{t.b, nat.Add(t.place, t.a.places), always, next}
}

// again is to go on with a Star, of which one begins here.
func (t *task) again(here int) *task {
	return &task{t.node, t.place, here, t.next}
}

// A point is what is gone back to: what is still to do at a place, so many times.
type point struct {
	todo       *task
	at, times  int
	tried      bool
	hits, ways int // where it was tried: what there were ahead of the last time
}
