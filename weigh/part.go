package weigh

import (
	"slices"

	"caltrop/api"
	"caltrop/core"
	"caltrop/nat"
)

// A part is what is known of a core; its positions are numbered from 0 on,
// wherever it stands.
type part struct {
	places      int
	void        int
	first, last weights
}

// open is the places of a core of which not all within is known.
const open = -1

// parts are what is known of cores: of each node, as it may stand in many
// places.
type parts map[*core.Node]part

// learn is what is known of a core and of all within it. It keeps its path by
// itself, as cores that are put together may be deep.
func learn(root *core.Node) (parts, api.Errno) {
	known := parts{}
	path := []*core.Node{root}
	for len(path) > 0 {
		c := path[len(path)-1]
		if !isNode(c) {
			return nil, api.ErrArg
		}
		inner := within(c)
		if i := slices.IndexFunc(inner, known.lacks); i >= 0 {
			known[c] = part{places: open}
			path = append(path, inner[i])
			continue
		}
		if slices.ContainsFunc(inner, known.opened) { // it stands within itself
			return nil, api.ErrArg
		}
		known[c] = known.made(c)
		if known[c].places > api.MaxPlaces { // and what it stands in has no fewer
			return nil, api.ErrLong
		}
		path = path[:len(path)-1]
	}
	return known, api.OK
}

// lacks tells whether nothing is known of a core.
func (k parts) lacks(c *core.Node) bool {
	_, ok := k[c]
	return !ok
}

// opened tells whether a core is one of those on the path.
func (k parts) opened(c *core.Node) bool {
	return k[c].places == open
}

// isNode tells whether it is a node of a kind that there is.
func isNode(c *core.Node) bool {
	return c != nil && core.Empty <= c.Kind && c.Kind <= core.Star
}

// within is what a node is made of.
func within(c *core.Node) []*core.Node {
	switch c.Kind {
	case core.Cat, core.Alt:
		return []*core.Node{c.A, c.B}
	case core.Star:
		return []*core.Node{c.A}
	}
	return nil
}

// made is what is known of a core, made of what is known of those within it.
func (k parts) made(c *core.Node) part {
	switch c.Kind {
	case core.Set:
		one := weights{0: 1}
		return part{places: 1, first: one, last: one}
	case core.Cat:
		return cat(k[c.A], k[c.B])
	case core.Alt:
		return alt(k[c.A], k[c.B])
	case core.Star:
		p := k[c.A]
		p.void = 1
		return p
	}
	return part{void: 1}
}

// cat is what is known of a Cat of two.
func cat(a, b part) part {
	return part{
		places: a.places + b.places,
		void:   nat.Mul(a.void, b.void),
		first:  sum(term{a.first, 1, 0}, term{b.first, a.void, a.places}),
		last:   sum(term{a.last, b.void, 0}, term{b.last, 1, a.places}),
	}
}

// alt is what is known of an Alt of two.
func alt(a, b part) part {
	return part{
		places: a.places + b.places,
		void:   nat.Add(a.void, b.void),
		first:  sum(term{a.first, 1, 0}, term{b.first, 1, a.places}),
		last:   sum(term{a.last, 1, 0}, term{b.last, 1, a.places}),
	}
}
