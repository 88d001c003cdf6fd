package core

import (
	"math"
	"strings"

	"caltrop/printer"
)

// open is what stands for the number of a node on the path.
const open = -1

// tally is the number of a core, made of each of its nodes and of the numbers of
// that node's two (0 of nil); 0 of what stands within itself. It keeps its path
// by itself, as cores that are put together may be deep; and it keeps all
// numbers, as a node may stand in many places: then a small core has more of
// these than can be gone through.
func tally(root *Node, number func(c *Node, a, b int) int) int {
	if root == nil {
		return 0
	}
	known := map[*Node]int{nil: 0}
	var path []*Node
	enter := func(c *Node) {
		known[c] = open
		path = append(path, c)
	}
	for enter(root); len(path) > 0; {
		c := path[len(path)-1]
		a, hasA := known[c.A]
		b, hasB := known[c.B]
		switch {
		case a == open || b == open:
			return 0
		case !hasA:
			enter(c.A)
		case !hasB:
			enter(c.B)
		default:
			known[c] = number(c, a, b)
			path = path[:len(path)-1]
		}
	}
	return known[root]
}

// each hands on all nodes of a core, from the left to the right, place by
// place; none of what stands within itself, or of more than can be gone through.
func each(root *Node, visit func(c *Node)) {
	if size := Size(root); size == 0 || size > math.MaxInt32 {
		return
	}
	left := []*Node{root}
	for len(left) > 0 {
		c := left[len(left)-1]
		left = left[:len(left)-1]
		if c != nil {
			visit(c)
			left = append(left, c.B, c.A)
		}
	}
}

// alike tells whether two nodes are the same, their parts let be.
func alike(a, b *Node) bool {
	return a.Kind == b.Kind && a.Set == b.Set && a.Lazy == b.Lazy
}

// A frame is what is told ahead of a node's two, between them, and behind.
type frame struct {
	ahead, between, behind string
}

// long is how many bytes it has.
func (f frame) long() int {
	return len(f.ahead) + len(f.between) + len(f.behind)
}

// frameOf is a node's frame.
func frameOf(c *Node) frame {
	switch c.Kind {
	case Set:
		return frame{ahead: printer.Set(c.Set)}
	case Cat:
		return frame{"(", "", ")"}
	case Alt:
		return frame{"(", "|", ")"}
	case Star:
		if c.Lazy {
			return frame{"{", "", "}?"}
		}
		return frame{"{", "", "}"}
	}
	return frame{ahead: "()"}
}

// tell writes a core, that doesn't stand within itself.
func tell(w *strings.Builder, root *Node) {
	type piece struct {
		c    *Node
		text string // where there is no node
	}
	left := []piece{{c: root}}
	for len(left) > 0 {
		x := left[len(left)-1]
		left = left[:len(left)-1]
		if x.c == nil {
			w.WriteString(x.text)
			continue
		}
		f := frameOf(x.c)
		w.WriteString(f.ahead)
		left = append(left, piece{text: f.behind}, piece{c: x.c.B}, piece{text: f.between}, piece{c: x.c.A})
	}
}
