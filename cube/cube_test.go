package cube

import (
	"math"
	"slices"
	"strings"
	"testing"

	"caltrop/api"
	"caltrop/auto"
	"caltrop/bytes"
	"caltrop/core"
	"caltrop/square"
)

// empty is a set that has no byte.
const empty = "[^\\x00-\\xff]"

// of is the cube of a pattern.
func of(t *testing.T, p string, mode int) *Cube {
	t.Helper()
	a, _, e := auto.Parse(p, mode)
	if e != api.OK {
		t.Fatalf("Parse(%.60q): %d", p, e)
	}
	return cubeOf(t, p, a)
}

func TestCubes(t *testing.T) {
	for _, x := range []struct {
		pattern string
		mode    int
		triples int
		feeds   [][2]int
	}{
		{"", core.Full, 0, nil},
		{empty, core.Full, 0, nil},
		{"a*", core.Full, 0, nil},
		{"(a*)*", core.Full, 0, nil}, // a position doesn't feed itself
		{"a*a*", core.Full, 4, [][2]int{{0, 1}}},
		{"a*b?a*", core.Full, 4, [][2]int{{0, 2}}},
		{"a*aa*", core.Full, 9, [][2]int{{0, 2}}}, // that between is on no ring, but is met
		{"a*b*", core.Full, 0, nil},               // no byte in common
		{"a*[ab]*", core.Full, 4, [][2]int{{0, 1}}},
		{"[ab]*[bc]*", core.Full, 4, [][2]int{{0, 1}}},
		{"a*b", core.Full, 0, nil},
		{"aa*", core.Full, 0, nil}, // the first one is on no ring
		{"a*a", core.Full, 0, nil}, // the second one is on no ring
		{"a*|a*", core.Full, 0, nil},
		{"a*a*a*", core.Full, 18 + 9 + 4, [][2]int{{0, 1}, {0, 2}, {1, 2}}}, // counted anew for each pair
		{"a*" + empty + "a*", core.Full, 0, nil},                            // what can't be reached
		{"a*(ba)*", core.Full, 3, nil},                                      // of 0 and 2 alone
		{"(ab)*(ba)*", core.Full, 4, nil},
		{"(ab)*(ab)*", core.Full, 8 + 8, [][2]int{{0, 2}, {1, 3}}},
		{"(aa)*(aa)*", core.Full, 68, [][2]int{{0, 2}, {1, 3}}},
		{"(aa)*b(aa)*", core.Full, 16, nil}, // met ones, but none that feeds
		{"(a|b)*a(a|b)*", core.Full, 26, [][2]int{{0, 3}, {1, 4}}},
		{"(a|a)*", core.Full, 16, [][2]int{{0, 1}, {1, 0}}},
		{"a", core.Search, 9, [][2]int{{0, 2}}},
		{"a*", core.Prefix, 4, [][2]int{{0, 1}}},
		{"a*", core.Suffix, 4, [][2]int{{0, 1}}},
	} {
		c := of(t, x.pattern, x.mode)
		if c.Triples() != x.triples {
			t.Errorf("%s: Triples: %d, not %d", x.pattern, c.Triples(), x.triples)
		}
		hold(t, x.pattern, c, x.feeds)
	}
}

func TestExample(t *testing.T) {
	star := &core.Node{Kind: core.Star, A: &core.Node{Kind: core.Set, Set: bytes.Of('a')}}
	c := check(t, &core.Node{Kind: core.Cat, A: star, B: star})
	if w, ok := c.Loop(0, 1); !c.Feeds(0, 1) || c.Feeds(1, 0) || w != "a" || !ok {
		t.Errorf("Loop of {a}{a}: %q, %v", w, ok)
	}
}

// Loops are no longer than they have to be.
func TestShortLoops(t *testing.T) {
	for _, x := range []struct {
		pattern string
		p, q    int
		length  int
	}{
		{"a*a*", 0, 1, 1},
		{"(abc)*(abc)*", 1, 4, 3},
		{"(aa)*(aaa)*", 0, 3, 6},
		{"(a{3})*b?(a{4})*", 2, 4, 12},
		{"[ab]*ab[a-c]*", 0, 3, 3}, // ab, and a or b
	} {
		w, ok := of(t, x.pattern, core.Full).Loop(x.p, x.q)
		if !ok || len(w) != x.length {
			t.Errorf("%s: Loop(%d, %d): %q, %v", x.pattern, x.p, x.q, w, ok)
		}
	}
}

func TestErrors(t *testing.T) {
	if c, e := New(nil); c != nil || e != api.ErrArg {
		t.Errorf("New(nil): %v, %d", c, e)
	}
	for _, x := range []struct {
		pattern string
		mode    int
		live    int // above 24: too many
	}{
		{"a{24}", core.Full, 24},
		{"a{25}", core.Full, 25},
		{"a{60}", core.Full, 60},
		{"a{24}", core.Prefix, 25},
		{"a{22}", core.Search, 24},
		{"(?:a*){24}", core.Full, 24},
		{"(?:a*){25}", core.Full, 25},
		{"a{23}" + empty + "b{500}|a", core.Full, 24}, // what can't be reached doesn't count
		{"a{24}" + empty + "b{500}|a", core.Full, 25},
		{empty + "b{599}", core.Full, 0},
	} {
		a, _, e := auto.Parse(x.pattern, x.mode)
		if e != api.OK {
			t.Fatalf("Parse(%s): %d", x.pattern, e)
		}
		s, e := square.New(a)
		if e != api.OK {
			t.Fatalf("the square's New of %s: %d", x.pattern, e)
		}
		c, e := New(s)
		if x.live > 24 {
			if c != nil || e != api.ErrLong {
				t.Errorf("New of %s: %v, %d", x.pattern, c, e)
			}
		} else if c == nil || e != api.OK || len(c.Live()) != x.live {
			t.Errorf("New of %s: %d", x.pattern, e)
		}
	}
}

func TestNilCube(t *testing.T) {
	var c *Cube
	x, ok := c.First()
	w, is := c.Loop(0, 1)
	if c.Feeds(0, 1) || c.All() != nil || x != [2]int{} || ok || w != "" || is || c.Triples() != 0 {
		t.Errorf("something of nil")
	}
}

// Of what is no position nothing is told.
func TestNotThere(t *testing.T) {
	c := of(t, "a*a*", core.Full)
	for _, p := range []int{-1, 0, 1, 2, 600, math.MaxInt, math.MinInt} {
		for _, x := range [][2]int{{p, 0}, {1, p}, {p, p}} {
			if w, ok := c.Loop(x[0], x[1]); c.Feeds(x[0], x[1]) || w != "" || ok {
				t.Errorf("%v: %v, %q, %v", x, c.Feeds(x[0], x[1]), w, ok)
			}
		}
	}
}

// One that wasn't made by New mustn't panic, nor one of what wasn't made by square.
func TestNotMade(t *testing.T) {
	made, other := of(t, "a*a*", core.Full), of(t, "a*a*", core.Full)
	other.Square = nil
	changed := of(t, "a*a*b*", core.Full).Square
	changed.Auto = of(t, "a", core.Full).Auto
	bare := of(t, "a*a*", core.Full).Square
	bare.Auto = &auto.Auto{}
	without := of(t, "a*a*", core.Full).Square
	without.Auto = nil
	cubes := []*Cube{{}, {Square: made.Square}, other}
	for _, s := range []*square.Square{{}, {Auto: made.Auto}, changed, bare, without} {
		if c, e := New(s); e == api.OK {
			cubes = append(cubes, c)
		}
	}
	for _, c := range cubes {
		c.Feeds(0, 1)
		c.All()
		c.First()
		c.Loop(0, 1)
		c.Triples()
	}
}

// The square's calls are those of the cube, but for All, First and Loop.
func TestSquare(t *testing.T) {
	c := of(t, "a*(a|aa)*", core.Full)
	if !slices.Equal(c.Live(), []int{0, 1, 2, 3}) || c.Pairs() != 16 || c.Splits(0) || !c.Splits(1) || c.Hits("a") != 3 {
		t.Errorf("another square")
	}
	if l := c.Square.All(); !slices.Equal(l, []int{1, 2, 3}) {
		t.Errorf("All of the square: %v", l)
	}
}

// What is answered is new, and is the same each time.
func TestAnswersAreNew(t *testing.T) {
	const pattern = "(a|ba)*(ab?)*a*"
	c := of(t, pattern, core.Full)
	want := c.All()
	if len(want) < 3 {
		t.Fatalf("All: %v", want)
	}
	for range 3 {
		l := c.All()
		if !slices.Equal(l, want) {
			t.Errorf("All: %v, not %v", l, want)
		}
		for i := range l[:cap(l)] {
			l[:cap(l)][i] = [2]int{99, 98}
		}
		if c.Feeds(99, 98) {
			t.Errorf("what was answered is kept")
		}
		again := of(t, pattern, core.Full)
		for _, x := range want {
			first, _ := c.Loop(x[0], x[1])
			if w, ok := again.Loop(x[0], x[1]); w != first || !ok {
				t.Errorf("Loop(%d, %d): %q, not %q", x[0], x[1], w, first)
			}
		}
	}
}

// The greatest cubes are done in time, and their loops are as they have to be.
func TestGreat(t *testing.T) {
	for _, x := range []struct {
		pattern string
		triples int
		feeds   int
	}{
		{"(" + strings.Repeat("a|", 23) + "a)*", 24 * 23 * 24 * 24 * 24, 24 * 23},
		{"(a{11}|a{13})*", 24 * 23 * 24 * 24 * 24, 24 * 23},
		{strings.Repeat("a*", 24), 836510, 24 * 23 / 2},
		{strings.Repeat("a*", 12) + "(" + strings.Repeat("a|", 11) + "a)*", 1317793, 12*11/2 + 12*12 + 12*11},
		{"(a{5})*(a{7})*(a{11})*", 1260639, 5*7 + 5*11 + 7*11},
		{strings.Repeat("a*", 12) + strings.Repeat("b*", 12), 0, 12 * 11},
	} {
		c := of(t, x.pattern, core.Full)
		l := c.All()
		if x.triples > 0 && c.Triples() != x.triples || len(l) != x.feeds {
			t.Errorf("%.40s: %d triples, %d pairs", x.pattern, c.Triples(), len(l))
		}
		for i, y := range l {
			w, ok := c.Loop(y[0], y[1])
			if !ok || !slices.Contains(c.All(), y) {
				t.Fatalf("%.40s: Loop(%d, %d)", x.pattern, y[0], y[1])
			}
			if i%7 == 0 {
				loop(t, x.pattern, c, y[0], y[1], w)
			}
		}
	}
}
