package graph

import (
	"slices"
	"testing"
)

// A model tells of each thing to which ones arrows lead, as a table.
type model [][]bool

// empty is a model without arrows.
func empty(n int) model {
	m := make(model, n)
	for i := range m {
		m[i] = make([]bool, n)
	}
	return m
}

// graph is what is held against the model.
func (m model) graph(t *testing.T) *Graph {
	t.Helper()
	return graphOf(t, len(m), m.arrows()...)
}

// arrows are all of them.
func (m model) arrows() [][2]int {
	var l [][2]int
	for from := range m {
		for to, there := range m[from] {
			if there {
				l = append(l, [2]int{from, to})
			}
		}
	}
	return l
}

// far is of each pair the least number of arrows, one at least, that lead from the
// one to the other; 0 of none. It joins ways, by each thing between.
func (m model) far() [][]int {
	d := make([][]int, len(m))
	for i := range m {
		d[i] = make([]int, len(m))
		for k, there := range m[i] {
			if there {
				d[i][k] = 1
			}
		}
	}
	for by := range m {
		for i := range m {
			for k := range m {
				if n := d[i][by] + d[by][k]; d[i][by] > 0 && d[by][k] > 0 && (d[i][k] == 0 || n < d[i][k]) {
					d[i][k] = n
				}
			}
		}
	}
	return d
}

// knots are numbered one by one, from the least thing that has none on.
func (m model) knots() ([]int, int) {
	d := m.far()
	l := slices.Repeat([]int{-1}, len(m))
	count := 0
	for i := range m {
		if l[i] >= 0 {
			continue
		}
		l[i] = count
		for k := range m {
			if d[i][k] > 0 && d[k][i] > 0 {
				l[k] = count
			}
		}
		count++
	}
	return l, count
}

// most is the most marked steps of a way, of ways so long that they come by some
// marked step again, if there may be ever more: else these lead to new things.
func (m model) most(marks [][2]int) (int, bool) {
	const no = -1 << 40
	n := len(m)
	most := make([]int, n)
	for range n*n + n {
		next := slices.Repeat([]int{no}, n)
		for _, a := range m.arrows() {
			next[a[1]] = max(next[a[1]], most[a[0]])
		}
		for _, a := range marks {
			next[a[1]] = max(next[a[1]], most[a[0]]+1)
		}
		for i := range most { // a way may be shorter, too
			most[i] = max(most[i], next[i])
		}
	}
	best := slices.Max(append(most, 0))
	if best >= max(n, 1) {
		return 0, false
	}
	return best, true
}

// check holds a graph against the model.
func (m model) check(t *testing.T, g *Graph) {
	t.Helper()
	if g.Len() != len(m) || g.Arrows() != len(m.arrows()) {
		t.Fatalf("%v: %d things, %d arrows", m.arrows(), g.Len(), g.Arrows())
	}
	k, count := g.Knots()
	wantKnots, want := m.knots()
	if !slices.Equal(k, wantKnots) || count != want {
		t.Fatalf("%v: Knots: %v, %d, not %v, %d", m.arrows(), k, count, wantKnots, want)
	}
	d := m.far()
	for from := range m {
		if g.Ring(from) != (d[from][from] > 0) {
			t.Fatalf("%v: Ring(%d): %v", m.arrows(), from, g.Ring(from))
		}
		reach := g.Reach(from)
		if len(reach) != len(m) {
			t.Fatalf("%v: Reach(%d): %v", m.arrows(), from, reach)
		}
		for to := range m {
			if reach[to] != (from == to || d[from][to] > 0) {
				t.Fatalf("%v: Reach(%d): %v", m.arrows(), from, reach)
			}
			if both := reach[to] && g.Reach(to)[from]; both != (k[from] == k[to]) {
				t.Fatalf("%v: %d and %d in one knot: %v", m.arrows(), from, to, k)
			}
			m.path(t, g, from, to, d[from][to])
		}
		var next []int
		for to, there := range m[from] {
			if there {
				next = append(next, to)
			}
		}
		if l := g.From(from); !slices.Equal(l, next) {
			t.Fatalf("%v: From(%d): %v", m.arrows(), from, l)
		}
	}
}

// path holds a shortest way against how far it is.
func (m model) path(t *testing.T, g *Graph, from, to, far int) {
	t.Helper()
	if from == to {
		far = 0
	}
	p, ok := g.Path(from, to)
	there := from == to || far > 0
	good := ok == there && (ok || p == nil) && (!ok || len(p) == far+1 && p[0] == from && p[far] == to)
	for i := 1; good && i < len(p); i++ {
		good = m[p[i-1]][p[i]]
	}
	if !good {
		t.Fatalf("%v: Path(%d, %d): %v, %v, not %d far", m.arrows(), from, to, p, ok, far)
	}
}

// marked holds the most marked steps against the model.
func (m model) marked(t *testing.T, g *Graph, marks [][2]int) bool {
	t.Helper()
	n, ok := g.Most(marks...)
	if want, wantOk := m.most(marks); n != want || ok != wantOk {
		t.Fatalf("%v: Most(%v): %d, %v, not %d, %v", m.arrows(), marks, n, ok, want, wantOk)
	}
	return ok
}

// bits is the model of so many things that has the arrows that bits tell.
func bits(n, bits int) model {
	m := empty(n)
	for i := range n * n {
		m[i/n][i%n] = bits>>i&1 == 1
	}
	return m
}

// All graphs of up to three things are as the model tells, of two by all marks.
func TestAllSmallGraphs(t *testing.T) {
	for n := range 4 {
		for i := range 1 << (n * n) {
			m := bits(n, i)
			g := m.graph(t)
			m.check(t, g)
			for k := range 1 << (n * n) {
				if n < 3 || k%7 == i%7 {
					m.marked(t, g, bits(n, k).arrows())
				}
			}
		}
	}
}

// A dice makes graphs that are the same each time.
type dice struct {
	seed uint64
}

func (d *dice) under(n int) int {
	d.seed = d.seed*6364136223846793005 + 1442695040888963407
	return int(d.seed>>33) % n
}

// pair is two things: mostly the first one the less one, so that ways are long.
func (d *dice) pair(n int) [2]int {
	x := [2]int{d.under(n), d.under(n)}
	if x[0] > x[1] && d.under(8) > 0 {
		return [2]int{x[1], x[0]}
	}
	return x
}

func TestGraphsAtRandom(t *testing.T) {
	good, bad, tied := 0, 0, 0
	for seed := range 2500 {
		d := &dice{uint64(seed)}
		n := 1 + d.under(14)
		shuffle := d.under(n) // least things oughtn't always lead to great ones
		m := empty(n)
		place := func(x int) int { return (x*5 + shuffle) % n }
		if n%5 == 0 {
			place = func(x int) int { return (x*3 + shuffle) % n }
		}
		for range d.under(2*n + 1) {
			x := d.pair(n)
			m[place(x[0])][place(x[1])] = true
		}
		g := m.graph(t)
		m.check(t, g)
		if _, count := g.Knots(); 1 < count && count < n {
			tied++
		}
		var marks [][2]int
		for range d.under(n + 2) {
			x := d.pair(n)
			marks = append(marks, [2]int{place(x[0]), place(x[1])})
		}
		if m.marked(t, g, marks) {
			good++
		} else {
			bad++
		}
	}
	if good < 500 || bad < 500 || tied < 200 {
		t.Errorf("just %d graphs of so many steps, %d of ever more, %d with knots", good, bad, tied)
	}
}
