package core

import (
	"slices"

	"caltrop/bytes"
	"caltrop/syntax"
)

// endless is the Max of a Repeat that has no end.
const endless = -1

// fold joins cores from behind: the last one to what stands behind them all (or
// to nil, where nothing does), each other one to what was made of those behind.
func fold(l []*Node, behind *Node, join func(c, behind *Node) *Node) *Node {
	for _, c := range slices.Backward(l) {
		behind = join(c, behind)
	}
	return behind
}

// joined makes of two cores one of a kind; of one with nothing behind, itself.
func joined(kind int) func(c, behind *Node) *Node {
	return func(c, behind *Node) *Node {
		if behind == nil {
			return c
		}
		return &Node{Kind: kind, A: c, B: behind}
	}
}

// build is the core of a tree. Each of its nodes stands in one place.
func build(n *syntax.Node) *Node {
	switch n.Kind {
	case syntax.Set:
		return &Node{Kind: Set, Set: n.Set}
	case syntax.Group, syntax.Free:
		return build(n.L[0])
	case syntax.Cat:
		return fold(all(n.L), nil, joined(Cat))
	case syntax.Alt:
		return fold(all(n.L), nil, joined(Alt))
	case syntax.Repeat:
		return repeat(n)
	}
	return &Node{Kind: Empty}
}

// all is the cores of some trees.
func all(l []*syntax.Node) []*Node {
	cores := make([]*Node, len(l))
	for i, n := range l {
		cores[i] = build(n)
	}
	return cores
}

// repeat is the core of a Repeat: what must be, and what may be behind it.
func repeat(n *syntax.Node) *Node {
	c := fold(copies(n, n.Min), tail(n), joined(Cat))
	if c == nil {
		return &Node{Kind: Empty}
	}
	return c
}

// tail is what may be behind all that must be; nil, where nothing may.
func tail(n *syntax.Node) *Node {
	if n.Max == endless {
		return &Node{Kind: Star, Lazy: n.Lazy, A: build(n.L[0])}
	}
	cat := joined(Cat)
	return fold(copies(n, n.Max-n.Min), nil, func(c, next *Node) *Node {
		return choice(cat(c, next), n.Lazy)
	})
}

// copies is the core of what a Repeat repeats, so many times.
func copies(n *syntax.Node, times int) []*Node {
	return all(slices.Repeat(n.L, times))
}

// choice is a core, or nothing; a lazy one tries nothing first.
func choice(c *Node, lazy bool) *Node {
	nothing := &Node{Kind: Empty}
	if lazy {
		return &Node{Kind: Alt, A: nothing, B: c}
	}
	return &Node{Kind: Alt, A: c, B: nothing}
}

// by is what a core is by mode.
func by(mode int, c *Node) *Node {
	cat := joined(Cat)
	switch mode {
	case Prefix:
		return cat(c, rest())
	case Suffix:
		return cat(rest(), c)
	case Search:
		return cat(rest(), cat(c, rest()))
	}
	return c
}

// rest is what stands for bytes that a pattern doesn't tell of.
func rest() *Node {
	return &Node{Kind: Star, Lazy: true, A: &Node{Kind: Set, Set: bytes.All()}}
}
