package syntax

import (
	"math"
	"slices"

	"caltrop/api"
)

// open is what stands for the number of a node on the path.
const open = -1

// A step is a node, and the numbers of its parts, as far as they are known.
type step struct {
	n     *Node
	parts []int
}

// A folder goes through a tree, and makes numbers of its nodes. It keeps its
// path by itself, as trees that are put together may be deep; and it keeps the
// numbers of nodes with parts, as such nodes may stand in many places: then a
// small tree has more places than can be gone through.
type folder struct {
	number func(n *Node, parts []int) int
	known  map[*Node]int
	path   []step
}

// fold is the number of a tree, made of each of its nodes and of the numbers of
// that node's parts (0 of nil), and true; 0, false of what stands within itself.
func fold(root *Node, number func(n *Node, parts []int) int) (int, bool) {
	f := folder{number, map[*Node]int{}, []step{{n: &Node{L: []*Node{root}}}}}
	for {
		s := f.last()
		switch {
		case len(s.parts) < len(s.n.L):
			if !f.enter(s.n.L[len(s.parts)]) {
				return 0, false
			}
		case len(f.path) > 1:
			f.leave()
		default:
			return s.parts[0], true
		}
	}
}

// last is the path's last step.
func (f *folder) last() *step {
	return &f.path[len(f.path)-1]
}

// tell tells the last step's next number.
func (f *folder) tell(number int) {
	s := f.last()
	s.parts = append(s.parts, number)
}

// enter tells the number of a node, or goes on to its parts; false, if it is
// among these.
func (f *folder) enter(n *Node) bool {
	if n == nil {
		f.tell(0)
		return true
	}
	if len(n.L) == 0 {
		f.tell(f.number(n, nil))
		return true
	}
	number, met := f.known[n]
	switch {
	case !met:
		f.known[n] = open
		f.path = append(f.path, step{n: n})
	case number == open:
		return false
	default:
		f.tell(number)
	}
	return true
}

// leave tells the number of the path's last node to the one ahead.
func (f *folder) leave() {
	s := f.last()
	number := f.number(s.n, s.parts)
	f.known[s.n] = number
	f.path = f.path[:len(f.path)-1]
	f.tell(number)
}

// count is the sum of what is counted of a tree's nodes.
func count(root *Node, of func(n *Node) int) int {
	n, _ := fold(root, func(n *Node, parts []int) int {
		all := of(n)
		for _, x := range parts {
			all += min(x, api.Most-all)
		}
		return all
	})
	return n
}

// deepest is one more than the deepest of a node's parts, if it is a group.
func deepest(n *Node, parts []int) int {
	most := 0
	for _, deep := range parts {
		most = max(most, deep)
	}
	if n.Kind == Group || n.Kind == Free {
		most++
	}
	return most
}

// each hands on all nodes of a tree, from the left to the right, place by
// place; none of what stands within itself, or of more than can be gone through.
func each(root *Node, visit func(n *Node)) {
	if size := Size(root); size == 0 || size > math.MaxInt32 {
		return
	}
	left := []*Node{root}
	for len(left) > 0 {
		n := left[len(left)-1]
		left = left[:len(left)-1]
		if n == nil {
			continue
		}
		visit(n)
		for _, part := range slices.Backward(n.L) {
			left = append(left, part)
		}
	}
}

// alike tells whether two nodes are the same, their parts let be.
func alike(a, b *Node) bool {
	return a.Kind == b.Kind && a.Set == b.Set && a.Min == b.Min && a.Max == b.Max && a.Lazy == b.Lazy && len(a.L) == len(b.L)
}

// sound tells whether a node may be one of a pattern's tree, of its parts just
// their kinds being looked at.
func sound(n *Node) bool {
	if n.Kind != Set && n.Set != (api.Set{}) {
		return false
	}
	if n.Kind != Repeat && (n.Min != 0 || n.Max != 0 || n.Lazy) {
		return false
	}
	switch n.Kind {
	case Empty, Set:
		return len(n.L) == 0
	case Group, Free:
		return len(n.L) == 1 && without(n.L)
	case Cat:
		return len(n.L) > 1 && without(n.L, Empty, Cat, Alt)
	case Alt:
		return len(n.L) > 1 && without(n.L, Alt)
	case Repeat:
		return len(n.L) == 1 && without(n.L, Empty, Cat, Alt, Repeat) && counted(n.Min, n.Max)
	}
	return false
}

// without tells whether all of some nodes are there, and none is of these kinds.
func without(l []*Node, kinds ...int) bool {
	return !slices.ContainsFunc(l, func(n *Node) bool {
		return n == nil || slices.Contains(kinds, n.Kind)
	})
}

// counted tells whether a pattern's count may tell these numbers.
func counted(least, most int) bool {
	if most == endless {
		most = api.MaxCount
	}
	return 0 <= least && least <= most && most <= api.MaxCount
}
