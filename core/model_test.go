package core

import (
	"slices"
	"testing"

	"caltrop/api"
	"caltrop/bytes"
	"caltrop/printer"
	"caltrop/syntax"
)

// A told is a core as another model tells it: its text, how many nodes it has,
// and the texts of its sets.
type told struct {
	text string
	size int
	sets []string
}

func toldNothing() told {
	return told{text: "()", size: 1}
}

func toldSet(s api.Set) told {
	text := printer.Set(s)
	return told{text, 1, []string{text}}
}

func toldTwo(a, b told, between string) told {
	return told{"(" + a.text + between + b.text + ")", 1 + a.size + b.size, slices.Concat(a.sets, b.sets)}
}

func toldStar(a told, lazy bool) told {
	text := "{" + a.text + "}"
	if lazy {
		text += "?"
	}
	return told{text, 1 + a.size, a.sets}
}

// toldCat is the Cat of several: of the first one, and of that of the others.
func toldCat(l []told) told {
	switch len(l) {
	case 0:
		return toldNothing()
	case 1:
		return l[0]
	}
	return toldTwo(l[0], toldCat(l[1:]), "")
}

func toldAlt(l []told) told {
	if len(l) == 1 {
		return l[0]
	}
	return toldTwo(l[0], toldAlt(l[1:]), "|")
}

// toldChoices is so many choices, each within the one ahead.
func toldChoices(r told, n int, lazy bool) told {
	inner := r
	if n > 1 {
		inner = toldTwo(r, toldChoices(r, n-1, lazy), "")
	}
	if lazy {
		return toldTwo(toldNothing(), inner, "|")
	}
	return toldTwo(inner, toldNothing(), "|")
}

func toldRepeat(n *syntax.Node) told {
	r := toldTree(n.L[0])
	var l []told
	for range n.Min {
		l = append(l, r)
	}
	if n.Max == -1 {
		l = append(l, toldStar(r, n.Lazy))
	}
	if n.Max > n.Min {
		l = append(l, toldChoices(r, n.Max-n.Min, n.Lazy))
	}
	return toldCat(l)
}

func toldTree(n *syntax.Node) told {
	switch n.Kind {
	case syntax.Set:
		return toldSet(n.Set)
	case syntax.Group, syntax.Free:
		return toldTree(n.L[0])
	case syntax.Repeat:
		return toldRepeat(n)
	case syntax.Empty:
		return toldNothing()
	}
	var l []told
	for _, part := range n.L {
		l = append(l, toldTree(part))
	}
	if n.Kind == syntax.Cat {
		return toldCat(l)
	}
	return toldAlt(l)
}

// toldBy is a tree's core by mode.
func toldBy(n *syntax.Node, mode int) told {
	rest := toldStar(toldSet(bytes.All()), true)
	c := toldTree(n)
	switch mode {
	case Prefix:
		return toldTwo(c, rest, "")
	case Suffix:
		return toldTwo(rest, c, "")
	case Search:
		return toldTwo(rest, toldTwo(c, rest, ""), "")
	}
	return c
}

// check holds the core of a tree against the model.
func check(t *testing.T, n *syntax.Node) {
	t.Helper()
	for mode := range modes {
		want := toldBy(n, mode)
		if got := Measure(n, mode); got != want.size {
			t.Fatalf("Measure by mode %d: %d; wanted %d of %s", mode, got, want.size, want.text)
		}
		c, e := Build(n, mode)
		if want.size > api.MaxCore {
			if c != nil || e != api.ErrLong {
				t.Fatalf("Build of %d nodes by mode %d: %d", want.size, mode, e)
			}
			continue
		}
		if e != api.OK || Text(c) != want.text {
			t.Fatalf("Build by mode %d: %s, %d; wanted %s", mode, Text(c), e, want.text)
		}
		var sets []string
		for _, s := range Sets(c) {
			sets = append(sets, printer.Set(s))
		}
		// P8.3
		if Size(c) != want.size || !slices.Equal(sets, want.sets) || !alone(c) {
			t.Fatalf("of %s: size %d, sets %q; wanted %d, %q", want.text, Size(c), sets, want.size, want.sets)
		}
	}
}

// All patterns of a few parts are as the model tells, or have their tree's fault.
func TestAllShortPatterns(t *testing.T) {
	parts := []string{"a", "[bc]", "(", "(?:", ")", "|", "*", "*?", "+", "?", "??", "{0}", "{2}", "{1,3}?", "{2,4}"}
	good := 0
	var all func(p string, left int)
	all = func(p string, left int) {
		n, at, e := syntax.Parse(p)
		if e == api.OK {
			good++
			check(t, n)
		} else if c, where, got := Parse(p, Search); c != nil || where != at || got != e {
			t.Fatalf("Parse(%q): %d, %d; wanted %d, %d", p, where, got, at, e)
		}
		for _, part := range parts[:min(left, 1)*len(parts)] {
			all(p+part, left-1)
		}
	}
	all("", 4)
	if good < 1000 {
		t.Errorf("just %d patterns", good)
	}
}

// A dice makes numbers and trees that are the same each time.
type dice struct {
	seed uint64
}

func (d *dice) under(n int) int {
	d.seed = d.seed*6364136223846793005 + 1442695040888963407
	return int(d.seed>>33) % n
}

// single is a set or a group.
func (d *dice) single(deep int) *syntax.Node {
	if deep == 0 || d.under(2) == 0 {
		lo := byte(d.under(256))
		return &syntax.Node{Kind: syntax.Set, Set: bytes.Range(lo, max(lo, lo+byte(d.under(3))))}
	}
	return node(syntax.Group+d.under(2), d.tree(deep-1))
}

func (d *dice) item(deep int) *syntax.Node {
	n := d.single(deep)
	if d.under(2) == 0 {
		return n
	}
	least := []int{0, 1, 2, d.under(12)}[d.under(4)]
	n = times(n, least, []int{-1, least, least + 1, least + d.under(8)}[d.under(4)])
	n.Lazy = d.under(2) == 0
	return n
}

func (d *dice) alternative(deep int) *syntax.Node {
	var l []*syntax.Node
	for range d.under(4) {
		l = append(l, d.item(deep))
	}
	switch len(l) {
	case 0:
		return node(syntax.Empty)
	case 1:
		return l[0]
	}
	return node(syntax.Cat, l...)
}

func (d *dice) tree(deep int) *syntax.Node {
	l := []*syntax.Node{d.alternative(deep)}
	for range d.under(3) {
		l = append(l, d.alternative(deep))
	}
	if len(l) == 1 {
		return l[0]
	}
	return node(syntax.Alt, l...)
}

func TestTreesAtRandom(t *testing.T) {
	d := &dice{3}
	var counts [2]int
	for range 1000 {
		n := d.tree(d.under(5))
		switch size := Measure(n, Full); {
		case size > 1<<14: // too great for the model
			continue
		case size > api.MaxCore:
			counts[1]++
		default:
			counts[0]++
		}
		check(t, n)
	}
	if min(counts[0], counts[1]) < 20 {
		t.Errorf("too few of a sort: %v", counts)
	}
}
