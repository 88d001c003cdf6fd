package backtrack

import (
	"slices"

	"caltrop/api"
	"caltrop/bytes"
	"caltrop/core"
	"caltrop/nat"
)

// A node is a core's node, with what is known of all within it.
type node struct {
	kind   int
	lazy   bool
	first  api.Set // the bytes that it may read first
	void   int     // in how many ways it may be nothing
	places int     // how many positions it has
	a, b   *node
}

// nodes are what was made of cores: nil of those of which not all within is made.
type nodes map[*core.Node]*node

// prepare makes the node of a core; nil of what is none: of nil, of another kind,
// of what stands within itself. A node in many places is made once. It keeps its
// path by itself, as cores that are put together may be deep.
func prepare(root *core.Node) *node {
	made := nodes{}
	path := stack[*core.Node]{root}
	for len(path) > 0 {
		c := path.top()
		if c == nil || c.Kind < core.Empty || core.Star < c.Kind {
			return nil
		}
		made[c] = nil
		inner := within(c)
		if i := slices.IndexFunc(inner, made.lacks); i >= 0 {
			path.push(inner[i])
			continue
		}
		if slices.ContainsFunc(inner, made.opened) {
			return nil
		}
		made[c] = made.node(c)
		path.pop()
	}
	return made[root]
}

// within is what a core's node is made of.
func within(c *core.Node) []*core.Node {
	switch c.Kind {
	case core.Cat, core.Alt:
		return []*core.Node{c.A, c.B}
	case core.Star:
		return []*core.Node{c.A}
	}
	return nil
}

// lacks tells whether a core wasn't met.
func (m nodes) lacks(c *core.Node) bool {
	_, ok := m[c]
	return !ok
}

// opened tells whether a core was met, and isn't made.
func (m nodes) opened(c *core.Node) bool {
	return m[c] == nil
}

// node makes a node of a core's one, of which all within is made.
func (m nodes) node(c *core.Node) *node {
	n := &node{kind: c.Kind, lazy: c.Lazy, void: 1}
	switch c.Kind {
	case core.Set:
		n.first, n.void, n.places = c.Set, 0, 1
	case core.Cat:
		n.join(m[c.A], m[c.B])
		n.void = nat.Mul(n.a.void, n.b.void)
		if n.a.void == 0 {
			n.first = n.a.first
		}
	case core.Alt:
		n.join(m[c.A], m[c.B])
		n.void = nat.Add(n.a.void, n.b.void)
	case core.Star:
		n.a = m[c.A]
		n.first, n.places = n.a.first, n.a.places
	}
	return n
}

// join makes a node one of two, either of which may be read first.
func (n *node) join(a, b *node) {
	n.a, n.b = a, b
	n.first = bytes.Union(a.first, b.first)
	n.places = nat.Add(a.places, b.places)
}
