package printer

import (
	"strings"

	"caltrop/api"
	"caltrop/syntax"
)

// A writer gathers a pattern of a tree.
type writer struct {
	strings.Builder
}

// node writes a node, or nothing, if there is too much already: a tree whose
// parts stand in many places may have no end that can be waited for.
func (w *writer) node(n *syntax.Node) {
	if w.Len() > api.MaxText {
		return
	}
	switch n.Kind {
	case syntax.Set:
		w.WriteString(Set(n.Set))
	case syntax.Group:
		w.group("(", n)
	case syntax.Free:
		w.group("(?:", n)
	case syntax.Cat:
		w.nodes(n.L, "")
	case syntax.Alt:
		w.nodes(n.L, "|")
	case syntax.Repeat:
		w.node(n.L[0])
		w.WriteString(Count(n.Min, n.Max, n.Lazy))
	}
}

// group writes a group that is opened so.
func (w *writer) group(open string, n *syntax.Node) {
	w.WriteString(open)
	w.node(n.L[0])
	w.WriteString(")")
}

// nodes writes nodes with a text between.
func (w *writer) nodes(l []*syntax.Node, between string) {
	for i, n := range l {
		if i > 0 {
			w.WriteString(between)
		}
		w.node(n)
	}
}
