package core

import (
	"caltrop/nat"
	"caltrop/syntax"
)

// sizes are those of trees' cores, kept, as a tree may stand in many places.
type sizes map[*syntax.Node]int

// of is the size of a tree's core.
func (s sizes) of(n *syntax.Node) int {
	if len(n.L) == 0 {
		return 1
	}
	size, ok := s[n]
	if !ok {
		size = s.made(n)
		s[n] = size
	}
	return size
}

// made is the size of a tree that has parts, made of these.
func (s sizes) made(n *syntax.Node) int {
	if n.Kind == syntax.Repeat {
		return repeated(s.of(n.L[0]), n.Min, n.Max)
	}
	size := len(n.L) - 1 // what joins them; a group's one isn't joined
	for _, part := range n.L {
		size = nat.Add(size, s.of(part))
	}
	return size
}

// repeated is the size of the core of a Repeat of what has a size. Nothing is
// taken away anywhere: of numbers that end at the greatest it can't be.
func repeated(size, least, most int) int {
	must := nat.Mul(least, nat.Add(size, 1)) // with a Cat behind each
	switch {
	case most == endless:
		return nat.Add(must, size, 1)
	case most == 0:
		return 1
	case least == most: // the last one has no Cat
		return nat.Add(nat.Mul(least-1, nat.Add(size, 1)), size)
	}
	// of a choice an Alt, an Empty and, but of the last one, a Cat
	return nat.Add(must, nat.Mul(most-least-1, nat.Add(size, 3)), size, 2)
}

// addedBy is how many nodes a mode adds: with each rest its Star, its Set, and
// a Cat.
func addedBy(mode int) int {
	return 3 * [modes]int{Prefix: 1, Suffix: 1, Search: 2}[mode]
}
