package degree

import (
	"math"
	"slices"
	"strings"
	"testing"

	"caltrop/api"
	"caltrop/auto"
	"caltrop/bytes"
	"caltrop/core"
)

// emptySet is a set that has no byte.
const emptySet = "[^\\x00-\\xff]"

// parsed is the automaton of a pattern.
func parsed(t *testing.T, p string, mode int) *auto.Auto {
	t.Helper()
	a, _, e := auto.Parse(p, mode)
	if e != api.OK {
		t.Fatalf("Parse(%.60q): %d", p, e)
	}
	return a
}

// growthOf is how fast an automaton's runs grow.
func growthOf(t *testing.T, what string, a *auto.Auto) *Growth {
	t.Helper()
	g, e := New(a)
	if g == nil || e != api.OK {
		t.Fatalf("New of %.60s: %v, %d", what, g, e)
	}
	return g
}

// holdGrowth holds a growth against what ought to be told of it.
func holdGrowth(t *testing.T, what string, g *Growth, kind, degree int) {
	t.Helper()
	d, ok := g.Degree()
	if g.Kind() != kind || d != degree || ok != (kind != Wild) {
		t.Errorf("%.60s: %s of degree %d, %v, not %s of degree %d", what, Name(g.Kind()), d, ok, Name(kind), degree)
	}
	if c := g.Cube(); (c != nil) != (kind != Wild) || len(c.All()) > 0 != (kind == Steep) {
		t.Errorf("%.60s: %s, of the cube %v", what, Name(g.Kind()), c.All())
	}
}

func TestKinds(t *testing.T) {
	if Flat != 0 || Steep != 1 || Wild != 2 {
		t.Errorf("Flat, Steep and Wild: %d, %d, %d", Flat, Steep, Wild)
	}
	for kind, want := range []string{"flat", "steep", "wild"} {
		if n := Name(kind); n != want {
			t.Errorf("Name(%d): %q, not %q", kind, n, want)
		}
		if n, ok := Kind(want); n != kind || !ok {
			t.Errorf("Kind(%q): %d, %v, not %d", want, n, ok, kind)
		}
	}
	for _, kind := range []int{-1, 3, 4, -3, 1 << 40, math.MaxInt, math.MinInt} {
		if n := Name(kind); n != "" {
			t.Errorf("Name(%d): %q", kind, n)
		}
	}
	for _, name := range []string{"", "f", "Flat", "flat ", " flat", "FLAT", "wil", "wilder", "steep\x00", "unknown", "0", "1"} {
		if n, ok := Kind(name); n != 0 || ok {
			t.Errorf("Kind(%q): %d, %v", name, n, ok)
		}
	}
}

// holdAll holds the growth of some patterns.
func holdAll(t *testing.T, mode, kind, degree int, patterns ...string) {
	t.Helper()
	for _, p := range patterns {
		holdGrowth(t, p, growthOf(t, p, parsed(t, p, mode)), kind, degree)
	}
}

func TestFlat(t *testing.T) {
	holdAll(t, core.Full, Flat, 0, "", "a", "a{2,3}", "a*b", "a*b*", "(a|b)*a", "(ab)*(ba)*", "(aa)*b(aa)*")
	// several runs, by positions or by weights, but as many on any word
	holdAll(t, core.Full, Flat, 0, "(a|a)(a|a)", "(()|())(()|())a*", "(a|b)*(()|())c(()|())d*")
	// neither leads to the other
	holdAll(t, core.Full, Flat, 0, "(a|b)*|(a|c)*", "a*|a*")
	// what can't be reached
	holdAll(t, core.Full, Flat, 0, emptySet, "b|"+emptySet+"a*a*", "b|"+emptySet+"(a|a)*", "a*"+emptySet+"a*")
}

func TestSteep(t *testing.T) {
	holdAll(t, core.Full, Steep, 1, "a*a*", "a*a+", "a*b?a*", "a*(()|())a*", "(a|b)*a(a|b)*", "(ab)*(ab)*", "(aa)*(aaa)*")
	holdAll(t, core.Full, Steep, 2, "a*a*a*", "[ab]*[bc]*[cd]*", ".*a.*b.*", "(a|b)*(a|c)*(a|d)*")
	holdAll(t, core.Full, Steep, 3, "[ab]*[bc]*[cd]*[de]*", "(a*|b)(a*|c)(a*|d)(a*|e)")
	// between the steps are arrows alone, also by what is on no ring
	holdAll(t, core.Full, Steep, 2, "a*a*b*b*", "a*a*ba*a*", "a*a*bcdeb(ab|ba)*(ab)*", "a*b*a*b*a*")
	// no way makes two steps, though there are two of them
	holdAll(t, core.Full, Steep, 1, "a*b*a*b*", "a*a*|a*a*", "a*a*|b*b*", "a*a*("+emptySet+"|b)a*")
	// the most of several ways
	holdAll(t, core.Full, Steep, 2, "a*a*|ba*a*a*", "a*a*a*|ba*a*", "(a*a*|b)ca*a*")
	// what can't be reached
	holdAll(t, core.Full, Steep, 1, "a*a*"+emptySet+"a*a*", "a*a*|"+emptySet+"a*a*a*")
}

func TestWild(t *testing.T) {
	holdAll(t, core.Full, Wild, 0, "(a*)*", "(a*)*b", "(a|a)*", "(a|aa)*", "b(a|b)*|(c*)*")
	holdAll(t, core.Full, Wild, 0, "(a(()|())b|c)*") // by weights
	// what feeds is no matter where something splits: it may be fed again
	holdAll(t, core.Full, Wild, 0, "a*a*(b|b)*", "(a|a)*b*b*", "(a*a*)*", "a*a*a*(b*)*")
}

func TestModes(t *testing.T) {
	holdAll(t, core.Prefix, Flat, 0, "a")
	holdAll(t, core.Prefix, Steep, 1, "a*")
	holdAll(t, core.Suffix, Flat, 0, "a")
	holdAll(t, core.Suffix, Steep, 1, "a*")
	holdAll(t, core.Search, Steep, 1, "a")
	holdAll(t, core.Search, Steep, 2, "a*", "a+b+")
	holdAll(t, core.Search, Wild, 0, "(a*)*")
}

func TestExample(t *testing.T) {
	star := &core.Node{Kind: core.Star, A: &core.Node{Kind: core.Set, Set: bytes.Of('a')}}
	two := &core.Node{Kind: core.Cat, A: star, B: star}
	a, e := auto.New(&core.Node{Kind: core.Cat, A: two, B: star})
	if e != api.OK {
		t.Fatalf("New: %d", e)
	}
	holdGrowth(t, "{a}{a}{a}", growthOf(t, "{a}{a}{a}", a), Steep, 2)
}

// The cube that is handed out is that of the automaton.
func TestCube(t *testing.T) {
	a := parsed(t, "a*b?a*", core.Full)
	c := growthOf(t, "a*b?a*", a).Cube()
	if l := c.All(); !slices.Equal(l, [][2]int{{0, 2}}) || c.Triples() != 4 || !slices.Equal(c.Live(), []int{0, 1, 2}) || c.Hits("aa") != a.Hits("aa") {
		t.Errorf("Cube: %v, %d triples", l, c.Triples())
	}
	c = growthOf(t, "ab*", parsed(t, "ab*", core.Full)).Cube()
	if c.Triples() != 0 || !slices.Equal(c.Live(), []int{0, 1}) {
		t.Errorf("Cube of a flat one: %d triples, %v", c.Triples(), c.Live())
	}
}

func TestErrors(t *testing.T) {
	if g, e := New(nil); g != nil || e != api.ErrArg {
		t.Errorf("New(nil): %v, %d", g, e)
	}
	for _, x := range []struct {
		pattern string
		kind    int // none: too many live positions
	}{
		{"a{24}", Flat},
		{"a{25}", none}, // too many for a cube
		{"a*a*b{22}", Steep},
		{"a*a*b{23}", none},
		{"a{24}" + emptySet + "(b|b)*", Flat}, // what can't be reached doesn't count
		{"a{25}" + emptySet + "(b|b)*", none},
		{"(a*)*b{23}", Wild},
		{"(a*)*b{24}", Wild}, // too many for a cube, but one splits
		{"(a*)*b{59}", Wild},
		{"(a*)*b{60}", none}, // too many for a square
		{"b{59}(a*)*", Wild},
		{"b{60}(a*)*", none},
		{"a{60}", none},
		{"a{61}", none},
		{"a{600}", none},
		{"(a{30}|a{30})*", Wild},
		{"(a{30}|b{30})*", none},
		{emptySet + "(b*){599}", Flat},
	} {
		g, e := New(parsed(t, x.pattern, core.Full))
		switch {
		case x.kind == none && (g != nil || e != api.ErrLong):
			t.Errorf("New of %s: %v, %d", x.pattern, g, e)
		case x.kind != none && (e != api.OK || g.Kind() != x.kind):
			t.Errorf("New of %s: %s, %d", x.pattern, Name(g.Kind()), e)
		}
	}
}

func TestNilGrowth(t *testing.T) {
	var g *Growth
	d, ok := g.Degree()
	if g.Kind() != -1 || d != 0 || ok || g.Cube() != nil {
		t.Errorf("of nil: %d, %d, %v", g.Kind(), d, ok)
	}
}

// One that wasn't made by New mustn't panic, nor one of what wasn't made by auto.
func TestNotMade(t *testing.T) {
	growths := []*Growth{{}}
	changed := parsed(t, "a", core.Full)
	changed.Weights = parsed(t, "a*a*", core.Full).Weights
	other := parsed(t, "a*b*a*", core.Full)
	other.Weights = parsed(t, "a", core.Full).Weights
	without := parsed(t, "a*a*", core.Full)
	without.Weights = nil
	for _, a := range []*auto.Auto{{}, changed, other, without} {
		if g, e := New(a); e == api.OK {
			growths = append(growths, g)
		}
	}
	for _, g := range growths {
		g.Kind()
		g.Degree()
		g.Cube().All()
	}
}

// What is told doesn't hang on what is done with what was answered, or handed in.
func TestTellsTheSame(t *testing.T) {
	a := parsed(t, "a*a*b", core.Full)
	g := growthOf(t, "a*a*b", a)
	for range 3 {
		holdGrowth(t, "a*a*b", g, Steep, 1)
		for _, x := range g.Cube().All() {
			x[0] = 9
		}
		l := g.Cube().All()
		l[0] = [2]int{1, 0}
		holdGrowth(t, "a*a*b, again", growthOf(t, "a*a*b", a), Steep, 1)
	}
	a.Weights = parsed(t, "c", core.Full).Weights
	holdGrowth(t, "a*a*b", g, Steep, 1)
}

// The greatest ones are done in time.
func TestGreat(t *testing.T) {
	for _, x := range []struct {
		pattern      string
		kind, degree int
	}{
		{strings.Repeat("a*", 24), Steep, 23},
		{strings.Repeat("a*b", 12), Flat, 0},
		{strings.Repeat("a*", 12) + strings.Repeat("b*", 12), Steep, 22},
		{"(a{5})*(a{7})*(a{11})*", Steep, 2},
		{"(" + strings.Repeat("ab|", 11) + "ac)*", Wild, 0},
		{"(" + strings.Repeat("a|", 59) + "a)*", Wild, 0},
		{"(a{29}|a{31})*", Wild, 0},
		{"(a{24})*", Flat, 0},
		{"[a-x]{24}", Flat, 0},
	} {
		holdGrowth(t, x.pattern, growthOf(t, x.pattern, parsed(t, x.pattern, core.Full)), x.kind, x.degree)
	}
}
