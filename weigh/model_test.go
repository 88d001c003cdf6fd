package weigh

import (
	"math/big"
	"slices"
	"testing"

	"caltrop/api"
	"caltrop/bytes"
	"caltrop/core"
)

// exact are of positions their numbers, without an end.
type exact map[int]*big.Int

// add adds so many times a number.
func (x exact) add(p int, times, n *big.Int) {
	if x[p] == nil {
		x[p] = new(big.Int)
	}
	x[p].Add(x[p], new(big.Int).Mul(times, n))
}

// A model tells weights as the document does: a sum over all Cats and all Stars.
type model struct {
	sets   []api.Set
	follow map[[2]int]*big.Int
}

// join lets all that some end with be followed by all that others begin with.
func (m *model) join(last, first exact) {
	for p, x := range last {
		for q, y := range first {
			if m.follow[[2]int{p, q}] == nil {
				m.follow[[2]int{p, q}] = new(big.Int)
			}
			sum := m.follow[[2]int{p, q}]
			sum.Add(sum, new(big.Int).Mul(x, y))
		}
	}
}

// plus is the sum of numbers, the others so many times.
func plus(a exact, times *big.Int, b exact) exact {
	sum := exact{}
	for p, n := range a {
		sum.add(p, big.NewInt(1), n)
	}
	for p, n := range b {
		sum.add(p, times, n)
	}
	return sum
}

// of is a core's void, first and last.
func (m *model) of(c *core.Node) (void *big.Int, first, last exact) {
	one := big.NewInt(1)
	switch c.Kind {
	case core.Set:
		p := len(m.sets)
		m.sets = append(m.sets, c.Set)
		return new(big.Int), exact{p: one}, exact{p: one}
	case core.Star:
		_, first, last = m.of(c.A)
		m.join(last, first)
		return one, first, last
	case core.Empty:
		return one, exact{}, exact{}
	}
	voidA, firstA, lastA := m.of(c.A)
	voidB, firstB, lastB := m.of(c.B)
	if c.Kind == core.Alt {
		return new(big.Int).Add(voidA, voidB), plus(firstA, one, firstB), plus(lastA, one, lastB)
	}
	m.join(lastA, firstB)
	return new(big.Int).Mul(voidA, voidB), plus(firstA, voidA, firstB), plus(lastB, voidB, lastA)
}

// ended is an exact number, ended at the greatest.
func ended(n *big.Int) int {
	switch {
	case n == nil:
		return 0
	case n.Cmp(big.NewInt(api.Most)) > 0:
		return api.Most
	}
	return int(n.Int64())
}

// list is the numbers of so many positions.
func (x exact) list(places int) []int {
	var l []int
	for p := range places {
		l = append(l, ended(x[p]))
	}
	return l
}

// check holds weights against the model of a core.
func check(t *testing.T, w *Weights, c *core.Node) {
	t.Helper()
	m := &model{follow: map[[2]int]*big.Int{}}
	void, first, last := m.of(c)
	places := len(m.sets)
	want := told{void: ended(void), first: first.list(places), last: last.list(places)}
	for p := range places {
		row, most := []int{}, 0
		for q := range places {
			n := ended(m.follow[[2]int{p, q}])
			row, most = append(row, n), max(most, n)
			want.edges += min(n, 1)
		}
		want.follow = append(want.follow, row)
		if most > 1 {
			want.heavy = append(want.heavy, p)
		}
		if w.Set(p) != m.sets[p] {
			t.Errorf("%s: Set(%d): %x", core.Text(c), p, w.Set(p))
		}
	}
	hold(t, core.Text(c), w, want)
	if t.Failed() {
		t.FailNow()
	}
}

// All patterns of a few parts are as the model tells, by all modes.
func TestAllShortPatterns(t *testing.T) {
	parts := []string{"a", "[bc]", "(", "(?:", ")", "|", "*", "*?", "+", "?", "??", "{0}", "{2}", "{1,3}?", "{2,4}"}
	good := 0
	var all func(p string, left int)
	all = func(p string, left int) {
		for mode := core.Full; mode <= core.Search; mode++ {
			if c, _, e := core.Parse(p, mode); e == api.OK {
				good++
				check(t, weigh(t, c), c)
			}
		}
		for _, part := range parts[:min(left, 1)*len(parts)] {
			all(p+part, left-1)
		}
	}
	all("", 4)
	if good < 4000 {
		t.Errorf("just %d patterns", good)
	}
}

// A dice makes cores that are the same each time.
type dice struct {
	seed uint64
	made []*core.Node // what may stand in one more place
}

func (d *dice) under(n int) int {
	d.seed = d.seed*6364136223846793005 + 1442695040888963407
	return int(d.seed>>33) % n
}

// core makes a core of so many nodes, but for those that stand in several places.
func (d *dice) core(size int) *core.Node {
	c := &core.Node{}
	switch {
	case size > 1 && d.under(4) == 0:
		*c = core.Node{Kind: core.Star, Lazy: d.under(2) == 0, A: d.core(size - 1)}
	case size > 1:
		left := 1 + d.under(size)
		*c = core.Node{Kind: core.Cat + d.under(2), A: d.core(left), B: d.core(max(1, size-left))}
	case len(d.made) > 0 && d.under(8) == 0:
		return d.made[d.under(len(d.made))]
	case d.under(2) == 0:
		lo := byte(d.under(256))
		*c = core.Node{Kind: core.Set, Set: bytes.Range(lo, max(lo, lo+byte(d.under(3))))}
	}
	d.made = append(d.made, c)
	return c
}

func TestCoresAtRandom(t *testing.T) {
	heavy, great, held := 0, 0, 0
	for seed := range 1500 {
		d := &dice{seed: uint64(seed)}
		c := d.core(1 + d.under(60))
		if size := core.Size(c); size > 1<<10 { // too great for the model
			continue
		}
		w := weigh(t, c)
		check(t, w, c)
		held++
		heavy += min(len(w.Heavy()), 1)
		great += min(w.Places()/20, 1)
	}
	if min(held-1000, heavy-100, great-50) < 0 {
		t.Errorf("too few of a sort: %d in all, %d heavy, %d great", held, heavy, great)
	}
}

// Numbers that reach the greatest are the same, whichever way they are summed.
func TestGreatCoresAtRandom(t *testing.T) {
	full := 0
	for seed := range 400 {
		d := &dice{seed: uint64(seed)}
		for _, n := range []int{3, 1 << 31, 1<<31 - 1, 1 << 62, api.Most - 1, api.Most} {
			d.made = append(d.made, nothing(n), two(core.Cat, nothing(n), of('a')), star(two(core.Cat, of('b'), nothing(n))))
		}
		c := d.core(12 + d.under(40))
		if core.Size(c) > 1<<12 {
			continue
		}
		w := weigh(t, c)
		check(t, w, c)
		for p := range w.Places() {
			if slices.Contains(w.Follow(p), api.Most) {
				full++
				break
			}
		}
	}
	if full < 30 {
		t.Errorf("just %d cores reach the greatest", full)
	}
}
