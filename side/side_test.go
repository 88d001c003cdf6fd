package side

import (
	"slices"
	"testing"

	"caltrop/api"
	"caltrop/bytes"
	"caltrop/graph"
)

// lay is the field of some positions of which 0 to 3 have sets, and rows of what
// follows them.
func lay(places ...int) *Field {
	sets := []api.Set{bytes.Of('a'), bytes.Of('a', 'b'), bytes.Of('b', 'c'), {}}
	rows := [][]int{{1, 2, 0, 1}, {0, 0, 3}, {1}, nil}
	return Lay(places, func(p int) api.Set { return sets[p] }, func(p int) []int { return rows[p] })
}

func TestField(t *testing.T) {
	f := lay(0, 1, 2, 3)
	for p, want := range [][]int{{0, 1, 3}, {2}, {0}, nil, nil} {
		if l := slices.Collect(f.Next(p)); !slices.Equal(l, want) {
			t.Errorf("Next(%d): %v, not %v", p, l, want)
		}
	}
	for _, x := range []struct{ p, q, ways int }{{0, 0, 1}, {0, 1, 2}, {0, 2, 0}, {1, 2, 3}, {2, 0, 1}, {3, 3, 0}, {7, -1, 0}} {
		if n := f.Ways(x.p, x.q); n != x.ways {
			t.Errorf("Ways(%d, %d): %d, not %d", x.p, x.q, n, x.ways)
		}
	}
	if l := slices.Collect(lay(0, 3).Next(0)); !slices.Equal(l, []int{0, 3}) || lay(0, 3).Ways(0, 1) != 0 {
		t.Errorf("Next of 0, without 1: %v", l)
	}
}

func TestMeet(t *testing.T) {
	f := lay(0, 1, 2, 3)
	for _, x := range []struct {
		l     []int
		meet  bool
		least byte
	}{
		{[]int{0}, true, 'a'},
		{[]int{2}, true, 'b'},
		{[]int{1, 0}, true, 'a'},
		{[]int{1, 2}, true, 'b'},
		{[]int{2, 2, 1}, true, 'b'},
		{[]int{0, 2}, false, 0},
		{[]int{0, 1, 2}, false, 0},
		{[]int{3}, false, 0},
		{[]int{0, 3}, false, 0},
		{[]int{0, 9}, false, 0}, // it isn't there
	} {
		if f.Meet(x.l...) != x.meet || f.Least(x.l...) != x.least {
			t.Errorf("%v: %v, %q", x.l, f.Meet(x.l...), f.Least(x.l...))
		}
	}
}

// odd is what a number leads to in these tests: there are 100 of them.
func odd(x int, each func(to int)) {
	if x%10 == 9 {
		return
	}
	each((x * 3) % 100)
	each((x*x + 7) % 100)
	each((x * 3) % 100)
}

// A net is as the graph of the same things, and has what is met alone.
func TestNet(t *testing.T) {
	g, _ := graph.New(100)
	for x := range 100 {
		odd(x, func(to int) { g.Arrow(x, to) })
	}
	knots, _ := g.Knots()
	from := []int{7, 50, 7}
	n := Spread(from, odd)
	all := slices.Sorted(n.Things())
	var want []int
	for x := range 100 {
		if g.Reach(7)[x] || g.Reach(50)[x] {
			want = append(want, x)
		}
	}
	if !slices.Equal(all, want) || len(all) < 20 || len(all) == 100 {
		t.Fatalf("Things: %v, not %v", all, want)
	}
	for x := range 100 {
		_, met := slices.BinarySearch(all, x)
		if _, ok := n.Knot(x); ok != met || n.Ring(x) != (met && g.Ring(x)) {
			t.Errorf("%d: Knot, Ring", x)
		}
		reach := slices.Sorted(n.Reach(x))
		for y := range 100 {
			_, there := slices.BinarySearch(reach, y)
			_, too := slices.BinarySearch(all, y)
			if there != (met && g.Reach(x)[y]) || n.Tied(x, y) != (met && too && knots[x] == knots[y]) {
				t.Errorf("%d, %d: Reach, Tied", x, y)
			}
			way, ok := g.Path(x, y)
			if p := n.Path(x, y); len(p) > 0 != (met && ok) || met && len(p) != len(way) || !goes(g, p, x, y) {
				t.Errorf("Path(%d, %d): %v, not %v", x, y, p, way)
			}
		}
	}
}

// goes tells whether a way, if it is one, goes from one thing to another one.
func goes(g *graph.Graph, way []int, from, to int) bool {
	for i := 1; i < len(way); i++ {
		if !slices.Contains(g.From(way[i-1]), way[i]) {
			return false
		}
	}
	return len(way) == 0 || way[0] == from && way[len(way)-1] == to
}

// One that goes through things may end ahead of the last one.
func TestEnds(t *testing.T) {
	n := Spread([]int{7}, odd)
	for range n.Things() {
		break
	}
	count := 0
	for range n.Reach(7) {
		if count++; count == 3 {
			break
		}
	}
	if l := slices.Collect(Spread(nil, odd).Things()); count != 3 || len(l) != 0 {
		t.Errorf("%d; of nothing: %v", count, l)
	}
}
