package core

import (
	"math"
	"slices"
	"strings"
	"testing"

	"caltrop/api"
	"caltrop/bytes"
	"caltrop/syntax"
)

// must is a pattern's core.
func must(t *testing.T, p string, mode int) *Node {
	t.Helper()
	c, at, e := Parse(p, mode)
	if c == nil || at != 0 || e != api.OK {
		t.Fatalf("Parse(%.60q, %d): %d, %d", p, mode, at, e)
	}
	return c
}

// tree is a pattern's tree.
func tree(t *testing.T, p string) *syntax.Node {
	t.Helper()
	n, _, e := syntax.Parse(p)
	if e != api.OK {
		t.Fatalf("syntax.Parse(%.60q): %d", p, e)
	}
	return n
}

// of is the set of some bytes.
func of(l ...byte) *Node {
	return &Node{Kind: Set, Set: bytes.Of(l...)}
}

// two is a Cat or an Alt.
func two(kind int, a, b *Node) *Node {
	return &Node{Kind: kind, A: a, B: b}
}

// star is a greedy Star.
func star(c *Node) *Node {
	return &Node{Kind: Star, A: c}
}

// lazily is a lazy Star.
func lazily(c *Node) *Node {
	return &Node{Kind: Star, Lazy: true, A: c}
}

// node is a node of a tree, of some others.
func node(kind int, l ...*syntax.Node) *syntax.Node {
	return &syntax.Node{Kind: kind, L: l}
}

// times is a Repeat.
func times(n *syntax.Node, least, most int) *syntax.Node {
	return &syntax.Node{Kind: syntax.Repeat, Min: least, Max: most, L: []*syntax.Node{n}}
}

// byteNode is a Set of one byte.
func byteNode(b byte) *syntax.Node {
	return &syntax.Node{Kind: syntax.Set, Set: bytes.Of(b)}
}

func TestKindsAndModes(t *testing.T) {
	if l := []int{Empty, Set, Cat, Alt, Star}; !slices.Equal(l, []int{0, 1, 2, 3, 4}) {
		t.Errorf("kinds: %v", l)
	}
	if l := []int{Full, Prefix, Suffix, Search}; !slices.Equal(l, []int{0, 1, 2, 3}) {
		t.Errorf("modes: %v", l)
	}
}

// P8.1

func TestParse(t *testing.T) {
	a, b, c, none := of('a'), of('b'), of('c'), &Node{}
	ab := two(Cat, a, b)
	for p, want := range map[string]*Node{
		"":             none,
		"()":           none,
		"(?:(?:))":     none,
		"a":            a,
		"(a)":          a,
		"((?:a))":      a,
		"[ab]":         of('a', 'b'),
		`[^\x00-\xff]`: {Kind: Set},
		"ab":           ab,
		"abc":          two(Cat, a, two(Cat, b, c)),
		"abca":         two(Cat, a, two(Cat, b, two(Cat, c, a))),
		"(ab)c":        two(Cat, ab, c),
		"a(bc)a":       two(Cat, a, two(Cat, two(Cat, b, c), a)),
		"a|b":          two(Alt, a, b),
		"a|b|c":        two(Alt, a, two(Alt, b, c)),
		"(a|b)|c":      two(Alt, two(Alt, a, b), c),
		"|a":           two(Alt, none, a),
		"||":           two(Alt, none, two(Alt, none, none)),
		"ab|c":         two(Alt, ab, c),
		"a()b":         two(Cat, a, two(Cat, none, b)),
		// with an end, and nothing behind what must be
		"a{0}":    none,
		"a{0}?":   none,
		"(ab){0}": none,
		"a{1}":    a,
		"a{1,1}?": a,
		"a{2}":    two(Cat, a, a),
		"a{3}":    two(Cat, a, two(Cat, a, a)),
		"a{3}?":   two(Cat, a, two(Cat, a, a)),
		"(ab){2}": two(Cat, ab, ab),
		"(){2}":   two(Cat, none, none),
		"a{2}b":   two(Cat, two(Cat, a, a), b),
		"ab{2}":   two(Cat, a, two(Cat, b, b)),
		// without end
		"a*":      star(a),
		"a*?":     lazily(a),
		"a{0,}":   star(a),
		"a+":      two(Cat, a, star(a)),
		"a+?":     two(Cat, a, lazily(a)),
		"a{2,}":   two(Cat, a, two(Cat, a, star(a))),
		"a{2,}?":  two(Cat, a, two(Cat, a, lazily(a))),
		"(ab)+":   two(Cat, ab, star(ab)),
		"()*":     star(none),
		"(a*?)*":  star(lazily(a)),
		"(a*)*?":  lazily(star(a)),
		"(a|b)*c": two(Cat, star(two(Alt, a, b)), c),
		// choices
		"a?":       two(Alt, a, none),
		"a??":      two(Alt, none, a),
		"a{0,1}":   two(Alt, a, none),
		"()?":      two(Alt, none, none),
		"a{0,2}":   two(Alt, two(Cat, a, two(Alt, a, none)), none),
		"a{0,2}?":  two(Alt, none, two(Cat, a, two(Alt, none, a))),
		"a{0,3}":   two(Alt, two(Cat, a, two(Alt, two(Cat, a, two(Alt, a, none)), none)), none),
		"a{2,3}":   two(Cat, a, two(Cat, a, two(Alt, a, none))),
		"a{1,3}?":  two(Cat, a, two(Alt, none, two(Cat, a, two(Alt, none, a)))),
		"(ab)?":    two(Alt, ab, none),
		"(a|b)??":  two(Alt, none, two(Alt, a, b)),
		"(a{2})?b": two(Cat, two(Alt, two(Cat, a, a), none), b),
		"(a??)?":   two(Alt, two(Alt, none, a), none),
	} {
		got := must(t, p, Full)
		if !Same(got, want) || Text(got) != Text(want) {
			t.Errorf("Parse(%q): %s; wanted %s", p, Text(got), Text(want))
		}
	}
}

func TestModes(t *testing.T) {
	rest := lazily(&Node{Kind: Set, Set: bytes.All()})
	for p, c := range map[string]*Node{"a": of('a'), "": {}, "ab": two(Cat, of('a'), of('b')), "a|": two(Alt, of('a'), &Node{}), "a*": star(of('a')), ".*?": lazily(&Node{Kind: Set, Set: bytes.Not(bytes.Of(10))})} {
		for mode, want := range []*Node{
			Full:   c,
			Prefix: two(Cat, c, rest),
			Suffix: two(Cat, rest, c),
			Search: two(Cat, rest, two(Cat, c, rest)),
		} {
			got := must(t, p, mode)
			if !Same(got, want) {
				t.Errorf("Parse(%q, %d): %s; wanted %s", p, mode, Text(got), Text(want))
			}
			if built, e := Build(tree(t, p), mode); e != api.OK || !Same(built, want) {
				t.Errorf("Build of %q, %d: %s, %d; wanted %s", p, mode, Text(built), e, Text(want))
			}
			if n := Measure(tree(t, p), mode); n != Size(want) {
				t.Errorf("Measure of %q, %d: %d; wanted %d", p, mode, n, Size(want))
			}
		}
	}
}

func TestOtherModes(t *testing.T) {
	tooLong := tree(t, "a{1000}b{1000}c{1000}")
	for _, mode := range []int{-1, 4, 5, 256, math.MaxInt, math.MinInt} {
		for _, p := range []string{"a", "a**", "(", "a{3,2}", "(?=a)", "a{1000}b{1000}c{1000}", strings.Repeat("a", api.MaxText+1)} {
			if c, at, e := Parse(p, mode); c != nil || at != 0 || e != api.ErrArg {
				t.Errorf("Parse(%.20q, %d): %d, %d", p, mode, at, e)
			}
		}
		for _, n := range []*syntax.Node{nil, tooLong, byteNode('a'), {Kind: 9}} {
			if c, e := Build(n, mode); c != nil || e != api.ErrArg {
				t.Errorf("Build by mode %d: %s, %d", mode, Text(c), e)
			}
			if size := Measure(n, mode); size != 0 {
				t.Errorf("Measure by mode %d: %d", mode, size)
			}
		}
	}
}

func TestFaults(t *testing.T) {
	for _, c := range []struct {
		p  string
		at int
		e  api.Errno
	}{
		{"*", 0, api.ErrForm}, {"a**", 2, api.ErrForm}, {"ab)", 2, api.ErrForm}, {"(a", 2, api.ErrForm}, {"a]", 1, api.ErrForm},
		{"a^", 1, api.ErrOther}, {"(?=a)", 0, api.ErrOther}, {"ab++", 3, api.ErrOther}, {"a{3,2}", 4, api.ErrValue}, {"[a-bd-c]", 4, api.ErrValue}, {"a{1001}", 2, api.ErrValue},
		{strings.Repeat("(", api.MaxDeep) + "((", api.MaxDeep, api.ErrLong},
		{strings.Repeat("a", api.MaxText+1), 0, api.ErrLong},
		{strings.Repeat("a", api.MaxCore) + "**", api.MaxCore + 1, api.ErrForm}, // ahead of what is too long
		{strings.Repeat("a", api.MaxText), 0, api.ErrLong},
		{"(a{1000}){1000}", 0, api.ErrLong},
		{strings.Repeat("(", 100) + "a" + strings.Repeat("{1000})", 100), 0, api.ErrLong},
	} {
		for mode := range modes {
			if got, at, e := Parse(c.p, mode); got != nil || at != c.at || e != c.e {
				t.Errorf("Parse(%.60q, %d): %.60s, %d, %d; wanted %d, %d", c.p, mode, Text(got), at, e, c.at, c.e)
			}
		}
	}
}

// within is a tree, or a node, that stands within itself.
func within() *syntax.Node {
	n := node(syntax.Group, nil)
	n.L[0] = node(syntax.Alt, byteNode('a'), n)
	return n
}

func TestNoTree(t *testing.T) {
	a := byteNode('a')
	deep := a
	for range api.MaxDeep + 1 {
		deep = node(syntax.Free, deep)
	}
	for i, n := range []*syntax.Node{
		nil, node(-1), node(7), node(syntax.Empty, a), node(syntax.Set, a), node(syntax.Group), node(syntax.Group, nil), node(syntax.Free, a, a), node(syntax.Cat), node(syntax.Cat, a), node(syntax.Cat, a, nil), node(syntax.Alt), node(syntax.Alt, a), node(syntax.Repeat),
		node(syntax.Cat, a, node(syntax.Empty)), node(syntax.Cat, a, node(syntax.Cat, a, a)), node(syntax.Alt, a, node(syntax.Alt, a, a)),
		times(a, 3, 2), times(a, -1, -1), times(a, -1, 1), times(a, 0, 1001), times(a, 1001, -1), times(a, 0, -2), times(nil, 0, 1), times(node(syntax.Empty), 0, 1), times(times(a, 0, 1), 0, 1), times(times(a, 0, 1), 0, 0),
		{Kind: syntax.Set, Lazy: true}, {Kind: syntax.Empty, Set: bytes.Of('a')}, node(syntax.Group, times(node(syntax.Cat, a, a), 2, 2)),
		deep, times(deep, 0, 0), within(), within().L[0], times(within(), 0, 0),
		node(syntax.Cat, append(slices.Repeat([]*syntax.Node{a}, api.MaxCore), node(9))...), // this is told ahead of what is too long
	} {
		for mode := range modes {
			if c, e := Build(n, mode); c != nil || e != api.ErrArg {
				t.Errorf("%d: Build of no tree: %s, %d", i, Text(c), e)
			}
			if size := Measure(n, mode); size != 0 {
				t.Errorf("%d: Measure of no tree: %d", i, size)
			}
		}
	}
}

func TestMostNodes(t *testing.T) {
	for mode, added := range [modes]int{0, 3, 3, 6} {
		for size := api.MaxCore - 9; size < api.MaxCore+9; size++ {
			// so many sets are one less of Cats; a Star is one more
			full := size - added
			p := strings.Repeat("a", (full+1)/2)
			if full%2 == 0 {
				p = strings.Repeat("a", full/2) + "*"
			}
			n := tree(t, p)
			if got := Measure(n, mode); got != size {
				t.Fatalf("Measure: %d; wanted %d", got, size)
			}
			want := api.OK
			if size > api.MaxCore {
				want = api.ErrLong
			}
			c, e := Build(n, mode)
			if e != want || (c == nil) != (e != api.OK) || c != nil && Size(c) != size {
				t.Errorf("Build of %d nodes by mode %d: %d nodes, %d", size, mode, Size(c), e)
			}
			if c, at, e := Parse(p, mode); e != want || at != 0 || (c == nil) != (e != api.OK) {
				t.Errorf("Parse of %d nodes by mode %d: %d, %d", size, mode, at, e)
			}
		}
	}
}

func TestMeasure(t *testing.T) {
	for p, want := range map[string]int{
		"": 1, "a": 1, "((a))": 1, "ab": 3, "abc": 5, "a|b|": 5,
		"a*": 2, "a+?": 4, "a{7}": 13, "a{7,}": 16, "a{0}": 1, "a{1}": 1, "a?": 3, "a{0,2}": 7, "a{2,3}": 7, "a{1,3}": 9, "(ab){2,4}?": 2*4 + 6 + 5,
		"a{1000}": 1999, "a{1000,}": 2002, "a{0,1000}": 3999, "a{1,1000}": 2 + 3995, "a{999,1000}": 999*2 + 3,
		"(?:a{1000}){1000}":                                       1999*1000 + 999,
		"(?:(?:a{1000}){1000}){0}":                                1,
		"(?:(?:a{1000}){1000}){0}b":                               3,
		"((((((a{1000}){1000}){1000}){1000}){1000}){1000}){1000}": api.Most, // just above 2 * 10^21
		"(((((a{1000}){1000}){1000}){1000}){1000}){1000}":         1999999999999999999,
	} {
		if got := Measure(tree(t, p), Full); got != want {
			t.Errorf("Measure of %q: %d; wanted %d", p, got, want)
		}
	}
}

// doubled is a tree whose core has 2^n - 1 nodes: each Cat has the same twice.
func doubled(n int) *syntax.Node {
	all := byteNode('a')
	for range n - 1 {
		all = node(syntax.Free, node(syntax.Cat, all, all))
	}
	return all
}

func TestMeasureEndsAtTheGreatest(t *testing.T) {
	const half = 1<<62 - 1
	for i, c := range []struct {
		n    *syntax.Node
		want int
	}{
		{doubled(62), half}, {doubled(63), api.Most}, {doubled(64), api.Most}, {doubled(api.MaxDeep), api.Most},
		{times(doubled(62), 0, 0), 1}, {times(doubled(62), 1, 1), half}, {times(doubled(62), 0, 1), half + 2}, {times(doubled(62), 0, -1), half + 1},
		{times(doubled(62), 2, 2), api.Most}, {times(doubled(62), 1, -1), api.Most}, {times(doubled(62), 0, 2), api.Most}, {times(doubled(62), 1, 2), api.Most}, {times(doubled(61), 1, -1), half + 1},
		{times(doubled(63), 0, 0), 1}, {times(doubled(63), 1, 1), api.Most}, {times(doubled(63), 0, 1), api.Most}, {times(doubled(63), 0, -1), api.Most}, {times(doubled(63), 1000, 1000), api.Most}, {times(doubled(63), 999, 1000), api.Most}, {times(doubled(63), 0, 1000), api.Most},
		{node(syntax.Cat, doubled(62), byteNode('a')), half + 2}, {node(syntax.Cat, doubled(62), doubled(62)), api.Most}, {node(syntax.Alt, doubled(63), byteNode('a')), api.Most},
		{node(syntax.Alt, times(doubled(63), 0, 0), doubled(62)), half + 2},
	} {
		for mode, added := range [modes]int{0, 3, 3, 6} {
			want := c.want + min(added, api.Most-c.want)
			if got := Measure(c.n, mode); got != want {
				t.Errorf("%d: Measure by mode %d: %d; wanted %d", i, mode, got, want)
			}
			if _, e := Build(c.n, mode); (e == api.OK) != (want <= api.MaxCore) {
				t.Errorf("%d: Build by mode %d: %d", i, mode, e)
			}
		}
	}
}

func TestSharedTrees(t *testing.T) {
	// what isn't repeated at all isn't made
	endless := times(doubled(api.MaxDeep), 0, 0)
	c, e := Build(node(syntax.Cat, endless, byteNode('b'), endless), Full)
	if e != api.OK || Text(c) != "(()(b()))" {
		t.Errorf("Build: %s, %d", Text(c), e)
	}
	c, e = Build(doubled(11), Full)
	if e != api.OK || Size(c) != 2047 || !alone(c) {
		t.Errorf("Build: %d nodes, %d", Size(c), e)
	}
	groups := byteNode('a')
	for range api.MaxDeep {
		groups = node(syntax.Group, times(groups, 1, 1))
	}
	c, e = Build(node(syntax.Cat, slices.Repeat([]*syntax.Node{groups}, 2048)...), Full)
	if e != api.OK || Size(c) != 4095 || !alone(c) {
		t.Errorf("Build: %d nodes, %d", Size(c), e)
	}
}

// alone tells whether each node of a core stands in one place.
func alone(c *Node) bool {
	met := map[*Node]int{}
	each(c, func(c *Node) { met[c]++ })
	return len(met) == Size(c)
}

func TestBuildIsNew(t *testing.T) {
	const p = "(a|b*?){2,4}c+|[d-f]{3}"
	for mode := range modes {
		n := tree(t, p)
		c, _ := Build(n, mode)
		was := Text(c)
		if !syntax.Same(n, tree(t, p)) || n.Span != tree(t, p).Span {
			t.Error("Build changes the tree")
		}
		if !alone(c) {
			t.Error("a node stands in two places")
		}
		n.L[1].L[0].Set, n.L[0].L[0].L[0].L[0].L[1].Kind = api.Set{}, syntax.Alt
		if Text(c) != was {
			t.Error("a core hangs on its tree")
		}
		each(c, func(c *Node) { c.Set, c.Lazy = bytes.All(), !c.Lazy })
		if c, _ := Build(tree(t, p), mode); Text(c) != was {
			t.Errorf("a core that was answered is told again: %s", Text(c))
		}
	}
}
