package graph

import (
	"math"
	"slices"
	"testing"

	"caltrop/api"
)

// graphOf is a graph with arrows.
func graphOf(t *testing.T, n int, arrows ...[2]int) *Graph {
	t.Helper()
	g, e := New(n)
	if g == nil || e != api.OK {
		t.Fatalf("New(%d): %v, %d", n, g, e)
	}
	for _, a := range arrows {
		if e := g.Arrow(a[0], a[1]); e != api.OK {
			t.Fatalf("Arrow(%d, %d) of %d: %d", a[0], a[1], n, e)
		}
	}
	return g
}

// list tells of a list that isn't the one that is asked for.
func list[T comparable](t *testing.T, what string, got, want []T) {
	t.Helper()
	if !slices.Equal(got, want) {
		t.Errorf("%s: %v, not %v", what, got, want)
	}
}

func TestNew(t *testing.T) {
	for _, n := range []int{-1, math.MinInt, 1<<20 + 1, math.MaxInt} {
		if g, e := New(n); g != nil || e != api.ErrArg {
			t.Errorf("New(%d): %d", n, e)
		}
	}
	for _, n := range []int{0, 1, 2, 1000, 1 << 20} {
		g, e := New(n)
		if g == nil || e != api.OK || g.Len() != n || g.Arrows() != 0 {
			t.Fatalf("New(%d): %d", n, e)
		}
		k, count := g.Knots()
		if len(k) != n || count != n || n > 0 && (k[0] != 0 || k[n-1] != n-1) {
			t.Errorf("Knots of %d: %d, %d", n, len(k), count)
		}
		for _, x := range []int{0, n / 2, n - 1} {
			if len(g.From(x)) != 0 || g.Ring(x) {
				t.Errorf("of %d: From(%d), Ring", n, x)
			}
		}
	}
}

func TestArrow(t *testing.T) {
	g := graphOf(t, 4)
	for i, x := range []struct {
		from, to int
		e        api.Errno
		arrows   int
	}{
		{2, 3, api.OK, 1},
		{2, 0, api.OK, 2},
		{2, 3, api.OK, 2}, // it is there
		{3, 2, api.OK, 3},
		{1, 1, api.OK, 4},
		{1, 1, api.OK, 4},
		{2, 2, api.OK, 5},
		{-1, 0, api.ErrRange, 5},
		{0, -1, api.ErrRange, 5},
		{4, 0, api.ErrRange, 5},
		{0, 4, api.ErrRange, 5},
		{4, 4, api.ErrRange, 5},
		{math.MinInt, math.MaxInt, api.ErrRange, 5},
		{0, 3, api.OK, 6},
	} {
		if e := g.Arrow(x.from, x.to); e != x.e || g.Arrows() != x.arrows || g.Len() != 4 {
			t.Errorf("%d: Arrow(%d, %d): %d; %d arrows, %d things", i, x.from, x.to, e, g.Arrows(), g.Len())
		}
	}
	for n, want := range [][]int{{3}, {1}, {0, 2, 3}, {2}} {
		list(t, "From", g.From(n), want)
	}
	if e := graphOf(t, 0).Arrow(0, 0); e != api.ErrRange {
		t.Errorf("Arrow of no things: %d", e)
	}
}

func TestFromRises(t *testing.T) {
	g := graphOf(t, 500)
	var want []int
	for i := range 500 {
		if x := i * 7 % 500; x%3 > 0 { // 7 and 500 have no divisor in common: each thing once
			g.Arrow(9, x)
		}
		if i%3 > 0 {
			want = append(want, i)
		}
	}
	list(t, "From", g.From(9), want)
	if g.Arrows() != len(want) {
		t.Errorf("Arrows: %d", g.Arrows())
	}
}

func TestReach(t *testing.T) {
	g := graphOf(t, 6, [2]int{0, 1}, [2]int{1, 2}, [2]int{2, 1}, [2]int{2, 3}, [2]int{5, 5}, [2]int{5, 0})
	yes, no := true, false
	for n, want := range [][]bool{
		{yes, yes, yes, yes, no, no},
		{no, yes, yes, yes, no, no},
		{no, yes, yes, yes, no, no},
		{no, no, no, yes, no, no},
		{no, no, no, no, yes, no},
		{yes, yes, yes, yes, no, yes},
	} {
		list(t, "Reach", g.Reach(n), want)
	}
}

func TestKnots(t *testing.T) {
	for _, x := range []struct {
		n      int
		arrows [][2]int
		knots  []int
		count  int
	}{
		{0, nil, nil, 0},
		{1, nil, []int{0}, 1},
		{1, [][2]int{{0, 0}}, []int{0}, 1},
		{3, nil, []int{0, 1, 2}, 3},
		{3, [][2]int{{0, 1}, {1, 0}, {1, 2}}, []int{0, 0, 1}, 2},
		{3, [][2]int{{2, 1}, {1, 0}}, []int{0, 1, 2}, 3}, // by the least things, not as arrows lead
		{3, [][2]int{{0, 1}, {1, 2}}, []int{0, 1, 2}, 3},
		{3, [][2]int{{0, 1}, {1, 2}, {2, 0}}, []int{0, 0, 0}, 1},
		{4, [][2]int{{0, 3}, {3, 0}, {1, 2}, {2, 1}, {1, 0}}, []int{0, 1, 1, 0}, 2},
		{4, [][2]int{{3, 1}, {1, 3}, {0, 3}, {1, 2}}, []int{0, 1, 2, 1}, 3},
		{5, [][2]int{{0, 1}, {1, 2}, {2, 1}, {2, 3}, {3, 3}}, []int{0, 1, 1, 2, 3}, 4},
		// two rings by one thing, and what comes off these again
		{6, [][2]int{{0, 1}, {1, 2}, {2, 0}, {2, 3}, {3, 4}, {4, 2}, {4, 5}}, []int{0, 0, 0, 0, 0, 1}, 2},
		{6, [][2]int{{0, 1}, {0, 2}, {1, 3}, {2, 3}, {3, 4}, {4, 3}, {5, 0}}, []int{0, 1, 2, 3, 3, 4}, 5},
	} {
		k, count := graphOf(t, x.n, x.arrows...).Knots()
		list(t, "Knots", k, x.knots)
		if count != x.count {
			t.Errorf("%v: %d knots, not %d", x.arrows, count, x.count)
		}
	}
}

func TestRing(t *testing.T) {
	g := graphOf(t, 8, [2]int{0, 1}, [2]int{1, 0}, [2]int{1, 2}, [2]int{3, 3}, [2]int{4, 3}, [2]int{4, 5}, [2]int{5, 6}, [2]int{6, 4})
	for n, want := range []bool{true, true, false, true, true, true, true, false} {
		if g.Ring(n) != want {
			t.Errorf("Ring(%d)", n)
		}
	}
}

func TestPath(t *testing.T) {
	g := graphOf(t, 7, [2]int{0, 1}, [2]int{1, 2}, [2]int{2, 3}, [2]int{3, 4}, [2]int{0, 2}, [2]int{4, 0}, [2]int{5, 5}, [2]int{4, 6})
	for _, x := range []struct {
		from, to int
		want     []int
	}{
		{0, 0, []int{0}},
		{0, 1, []int{0, 1}},
		{0, 2, []int{0, 2}},
		{0, 4, []int{0, 2, 3, 4}},
		{1, 0, []int{1, 2, 3, 4, 0}},
		{1, 6, []int{1, 2, 3, 4, 6}},
		{5, 5, []int{5}},
		{6, 6, []int{6}}, // it is on no ring
		{6, 0, nil},
		{0, 5, nil},
		{5, 0, nil},
	} {
		p, ok := g.Path(x.from, x.to)
		list(t, "Path", p, x.want)
		if ok != (x.want != nil) {
			t.Errorf("Path(%d, %d): %v", x.from, x.to, ok)
		}
	}
}

func TestMost(t *testing.T) {
	line := [][2]int{{0, 1}, {1, 2}, {2, 3}, {3, 4}}
	rings := [][2]int{{0, 1}, {1, 0}, {2, 3}, {3, 2}}
	for _, x := range []struct {
		n      int
		arrows [][2]int
		marks  [][2]int
		most   int
		ok     bool
	}{
		{0, nil, nil, 0, true},
		{1, nil, nil, 0, true},
		{1, [][2]int{{0, 0}}, nil, 0, true},
		{5, line, nil, 0, true},
		{5, line, line, 4, true}, // marks that are arrows, too
		{5, nil, line, 4, true},  // marks that aren't
		{5, line, [][2]int{{1, 2}}, 1, true},
		{5, line, [][2]int{{1, 2}, {1, 2}, {1, 2}}, 1, true},
		{5, line, [][2]int{{0, 2}, {2, 4}}, 2, true},
		{5, line, [][2]int{{0, 4}, {1, 2}, {2, 3}}, 2, true},
		{5, line, [][2]int{{0, 3}, {1, 4}}, 1, true},
		{5, line, [][2]int{{4, 0}}, 0, false},
		{5, nil, [][2]int{{4, 0}}, 1, true},
		{5, nil, [][2]int{{4, 0}, {0, 4}}, 0, false}, // a ring of marks alone
		{5, nil, [][2]int{{2, 2}}, 0, false},
		{5, nil, [][2]int{{0, 1}, {2, 2}}, 0, false},
		{4, rings, nil, 0, true},
		{4, rings, [][2]int{{1, 2}}, 1, true},
		{4, rings, [][2]int{{0, 2}, {1, 2}, {0, 3}, {1, 3}}, 1, true},
		{4, rings, [][2]int{{1, 2}, {3, 0}}, 0, false},
		{4, rings, [][2]int{{2, 3}}, 0, false},
		{4, rings, [][2]int{{3, 3}}, 0, false},
		{5, [][2]int{{0, 1}, {1, 2}, {2, 1}, {2, 3}, {3, 3}}, [][2]int{{0, 1}, {2, 3}, {3, 4}}, 3, true},
		// that which isn't there
		{3, nil, [][2]int{{0, 1}, {1, 3}}, 0, false},
		{3, nil, [][2]int{{0, 1}, {3, 1}}, 0, false},
		{3, nil, [][2]int{{-1, 0}}, 0, false},
		{3, nil, [][2]int{{0, -1}, {0, 1}}, 0, false},
		{0, nil, [][2]int{{0, 0}}, 0, false},
		{3, nil, [][2]int{{math.MinInt, math.MaxInt}}, 0, false},
	} {
		g := graphOf(t, x.n, x.arrows...)
		if n, ok := g.Most(x.marks...); n != x.most || ok != x.ok {
			t.Errorf("%v: Most(%v): %d, %v, not %d, %v", x.arrows, x.marks, n, ok, x.most, x.ok)
		}
		if g.Arrows() != len(x.arrows) {
			t.Errorf("%v: Most(%v): now %d arrows", x.arrows, x.marks, g.Arrows())
		}
	}
}

func TestNilGraph(t *testing.T) {
	var g *Graph
	if e := g.Arrow(0, 0); e != api.ErrArg {
		t.Errorf("Arrow: %d", e)
	}
	if e := g.Arrow(-1, -1); e != api.ErrArg {
		t.Errorf("Arrow: %d", e)
	}
	k, count := g.Knots()
	p, ok := g.Path(0, 0)
	if g.Len() != 0 || g.Arrows() != 0 || g.From(0) != nil || g.Reach(0) != nil || k != nil || count != 0 || g.Ring(0) || p != nil || ok {
		t.Errorf("something of nil")
	}
	if n, ok := g.Most(); n != 0 || ok {
		t.Errorf("Most: %d, %v", n, ok)
	}
	if n, ok := g.Most([2]int{0, 1}); n != 0 || ok {
		t.Errorf("Most: %d, %v", n, ok)
	}
}

// Of a thing that isn't there nothing is told.
func TestNotThere(t *testing.T) {
	for _, g := range []*Graph{graphOf(t, 0), graphOf(t, 3, [2]int{0, 1}, [2]int{2, 2}), {}} {
		for _, n := range []int{-1, math.MinInt, g.Len(), math.MaxInt} {
			if len(g.From(n)) != 0 || len(g.Reach(n)) != 0 || g.Ring(n) {
				t.Errorf("of %d things: %d", g.Len(), n)
			}
			for _, x := range [][2]int{{n, 0}, {0, n}, {n, n}} {
				if p, ok := g.Path(x[0], x[1]); p != nil || ok {
					t.Errorf("of %d things: Path(%d, %d): %v, %v", g.Len(), x[0], x[1], p, ok)
				}
			}
		}
	}
}

// What is answered is new, and what is handed in is neither changed nor kept.
func TestAnswersAreNew(t *testing.T) {
	arrows := [][2]int{{0, 1}, {1, 0}, {1, 2}, {0, 3}, {3, 3}}
	g := graphOf(t, 4, arrows...)
	spoil := func(l []int) {
		for i := range l[:cap(l)] {
			l[:cap(l)][i] = 99
		}
	}
	marks := [][2]int{{1, 2}, {0, 3}, {7, 7}, {8, 8}}
	given := slices.Clone(marks)
	for range 2 {
		list(t, "From", g.From(0), []int{1, 3})
		list(t, "Reach", g.Reach(0), []bool{true, true, true, true})
		k, _ := g.Knots()
		list(t, "Knots", k, []int{0, 0, 1, 2})
		p, _ := g.Path(0, 2)
		list(t, "Path", p, []int{0, 1, 2})
		if n, ok := g.Most(marks[:2]...); n != 1 || !ok {
			t.Errorf("Most: %d, %v", n, ok)
		}
		spoil(g.From(0))
		spoil(k)
		spoil(p)
		clear(g.Reach(0))
	}
	list(t, "what was handed in", marks, given)
	if g.Arrows() != len(arrows) {
		t.Errorf("Arrows: %d", g.Arrows())
	}
}

// Of several shortest ways it is always the same one, however maps are gone
// through, and in whatever order the arrows were added.
func TestOneAnswer(t *testing.T) {
	build := func(turn int) *Graph {
		g := graphOf(t, 82)
		for i := range 80 {
			by := 1 + (i*7+turn)%80
			g.Arrow(0, by)
			g.Arrow(by, 81)
		}
		return g
	}
	first, _ := build(0).Path(0, 81)
	if len(first) != 3 {
		t.Fatalf("Path: %v", first)
	}
	for turn := range 20 {
		g := build(turn)
		for range 2 {
			p, _ := g.Path(0, 81)
			list(t, "Path", p, first)
		}
	}
}

// Arrows that are added later count from then on.
func TestArrowsLater(t *testing.T) {
	g := graphOf(t, 3, [2]int{0, 1}, [2]int{1, 2})
	if _, ok := g.Path(2, 0); ok || g.Ring(1) || g.Reach(2)[0] {
		t.Errorf("2 reaches 0")
	}
	g.Arrow(2, 0)
	k, count := g.Knots()
	list(t, "Knots", k, []int{0, 0, 0})
	p, ok := g.Path(2, 1)
	list(t, "Path", p, []int{2, 0, 1})
	if count != 1 || !ok || !g.Ring(1) || !g.Reach(2)[1] {
		t.Errorf("2 doesn't reach 0")
	}
	if _, ok := g.Most([2]int{1, 2}); ok {
		t.Errorf("Most")
	}
}

// The greatest graphs are done in time, and without a way too deep for the stack.
func TestGreat(t *testing.T) {
	n := 1 << 20
	line := graphOf(t, n)
	marks := make([][2]int, n-1)
	for i := range n - 1 {
		line.Arrow(i, i+1)
		marks[i] = [2]int{i, i + 1}
	}
	k, count := line.Knots()
	if count != n || k[0] != 0 || k[n-1] != n-1 {
		t.Errorf("Knots of a line: %d", count)
	}
	if most, ok := line.Most(marks...); most != n-1 || !ok {
		t.Errorf("Most of a line: %d, %v", most, ok)
	}
	if p, ok := line.Path(0, n-1); len(p) != n || !ok || line.Ring(0) {
		t.Errorf("Path of a line: %d, %v", len(p), ok)
	}
	line.Arrow(n-1, 0)
	if _, count := line.Knots(); count != 1 || !line.Ring(n-1) || line.Arrows() != n {
		t.Errorf("Knots of a ring: %d", count)
	}
	if _, ok := line.Most(marks[0]); ok {
		t.Errorf("Most of a ring")
	}
}

func TestWide(t *testing.T) {
	n := 1 << 18
	star := graphOf(t, n)
	for i := range n {
		star.Arrow(0, i)
		star.Arrow(i, n-1)
	}
	k, count := star.Knots()
	if count != n || k[n-1] != n-1 || star.Arrows() != 2*n-1 || len(star.From(0)) != n {
		t.Errorf("Knots of a star: %d, %d arrows", count, star.Arrows())
	}
	for i := range n { // few arrows are gone for most things
		if star.Ring(i) != (i == 0 || i == n-1) {
			t.Fatalf("Ring(%d)", i)
		}
	}
	thick := graphOf(t, 700)
	for i := range 700 {
		for j := range 700 {
			thick.Arrow(i, j)
		}
	}
	if _, count := thick.Knots(); count != 1 || thick.Arrows() != 490000 {
		t.Errorf("Knots of all arrows: %d", count)
	}
	if p, ok := thick.Path(699, 3); len(p) != 2 || !ok {
		t.Errorf("Path of all arrows: %v", p)
	}
}
