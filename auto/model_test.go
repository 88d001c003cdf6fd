package auto

import (
	"math/big"
	"slices"
	"testing"

	"caltrop/api"
	"caltrop/bytes"
	"caltrop/core"
)

// A model counts ways as the core tells them, with no positions: of each part of
// a word in how many ways it is one of a node's.
type model struct {
	word  string
	known map[part]*big.Int
}

// A part of a word, for a node. A Star's part is open where nothing is an item.
type part struct {
	c        *core.Node
	from, to int
}

// ways is in how many ways a part is a node's: of a Star the empty one in one way,
// each other one by all items that it may begin with that aren't empty.
func (m *model) ways(c *core.Node, from, to int) *big.Int {
	key := part{c, from, to}
	if n := m.known[key]; n != nil {
		return n
	}
	n := new(big.Int)
	switch c.Kind {
	case core.Empty:
		if from == to {
			n.SetInt64(1)
		}
	case core.Set:
		if to == from+1 && bytes.Has(c.Set, m.word[from]) {
			n.SetInt64(1)
		}
	case core.Alt:
		n.Add(m.ways(c.A, from, to), m.ways(c.B, from, to))
	case core.Cat:
		for i := from; i <= to; i++ {
			n.Add(n, new(big.Int).Mul(m.ways(c.A, from, i), m.ways(c.B, i, to)))
		}
	case core.Star:
		if from == to {
			n.SetInt64(1)
		}
		for i := from + 1; i <= to; i++ {
			n.Add(n, new(big.Int).Mul(m.ways(c.A, from, i), m.ways(c, i, to)))
		}
	}
	m.known[key] = n
	return n
}

// ended is an exact number, ended at the greatest.
func ended(n *big.Int) int {
	if n.Cmp(big.NewInt(api.Most)) > 0 {
		return api.Most
	}
	return int(n.Int64())
}

// runs goes through all runs on a word, one by one, and sums up with what they
// end.
func runs(a *Auto, w string) []*big.Int {
	sum := make([]*big.Int, a.Places())
	for p := range sum {
		sum[p] = new(big.Int)
	}
	var onward func(next []int, at int, times *big.Int)
	onward = func(next []int, at int, times *big.Int) {
		for p, n := range next {
			if n == 0 || !bytes.Has(a.Set(p), w[at]) {
				continue
			}
			by := new(big.Int).Mul(times, big.NewInt(int64(n)))
			if at == len(w)-1 {
				sum[p].Add(sum[p], by)
			} else {
				onward(a.Follow(p), at+1, by)
			}
		}
	}
	if w != "" {
		onward(a.First(), 0, big.NewInt(1))
	}
	return sum
}

// check holds an automaton against both models, by a word.
func check(t *testing.T, a *Auto, c *core.Node, w string) {
	t.Helper()
	hits := new(big.Int)
	var profile, vector []int
	for i := range len(w) + 1 {
		sum := new(big.Int)
		vector = nil
		for _, n := range runs(a, w[:i]) {
			sum.Add(sum, n)
			vector = append(vector, ended(n))
		}
		hits.Add(hits, sum)
		if i > 0 {
			profile = append(profile, ended(sum))
		}
	}
	m := &model{w, map[part]*big.Int{}}
	ways := ended(m.ways(c, 0, len(w)))
	if !slices.Equal(a.Vector(w), vector) || !slices.Equal(a.Profile(w), profile) || a.Hits(w) != ended(hits) || a.Ways(w) != ways {
		t.Fatalf("%s of %q: %v, %v, %d, %d, not %v, %v, %s, %d", core.Text(c), w, a.Vector(w), a.Profile(w), a.Hits(w), a.Ways(w), vector, profile, hits, ways)
	}
}

// words are all words of some bytes, up to a length.
func words(alphabet string, length int) []string {
	l := []string{""}
	for i := 0; i < len(l) && len(l[i]) < length; i++ {
		for _, b := range []byte(alphabet) {
			l = append(l, l[i]+string(rune(b)))
		}
	}
	return l
}

// All patterns of a few parts are as the models tell, by all modes.
func TestAllShortPatterns(t *testing.T) {
	parts := []string{"a", "[bc]", "(", "(?:", ")", "|", "*", "*?", "+", "?", "??", "{0}", "{2}", "{1,3}?", "{2,4}"}
	some := words("abx", 3)
	good := 0
	var all func(p string, left int)
	all = func(p string, left int) {
		for mode := core.Full; mode <= core.Search; mode++ {
			c, _, e := core.Parse(p, mode)
			if e != api.OK {
				continue
			}
			good++
			a, e := New(c)
			if e != api.OK {
				t.Fatalf("New of %s: %d", p, e)
			}
			for _, w := range some {
				check(t, a, c, w)
			}
		}
		for _, part := range parts[:min(left, 1)*len(parts)] {
			all(p+part, left-1)
		}
	}
	all("", 3)
	if good < 400 {
		t.Errorf("just %d patterns", good)
	}
}

// A dice makes cores that are the same each time.
type dice struct {
	seed uint64
}

func (d *dice) under(n int) int {
	d.seed = d.seed*6364136223846793005 + 1442695040888963407
	return int(d.seed>>33) % n
}

// core makes a core of about so many nodes.
func (d *dice) core(size int) *core.Node {
	switch {
	case size > 1 && d.under(4) == 0:
		return &core.Node{Kind: core.Star, Lazy: d.under(2) == 0, A: d.core(size - 1)}
	case size > 1:
		left := 1 + d.under(size)
		return &core.Node{Kind: core.Cat + d.under(2), A: d.core(left), B: d.core(max(1, size-left))}
	case d.under(4) == 0:
		return &core.Node{}
	}
	lo := byte('a' + d.under(3))
	return &core.Node{Kind: core.Set, Set: bytes.Range(lo, lo+byte(d.under(2)))}
}

func TestCoresAtRandom(t *testing.T) {
	many := 0
	for seed := range 1200 {
		d := &dice{uint64(seed)}
		c := d.core(1 + d.under(16))
		a, e := New(c)
		if e != api.OK {
			t.Fatalf("New of %s: %d", core.Text(c), e)
		}
		for range 5 {
			var w []byte
			for range d.under(6) {
				w = append(w, byte('a'+d.under(3)))
			}
			check(t, a, c, string(w))
			if a.Ways(string(w)) > 1 {
				many++
			}
		}
	}
	if many < 300 {
		t.Errorf("just %d words with several ways", many)
	}
}

// Bytes of one block are alike, and the vector behind two words hangs on that
// behind the first one, and the second one.
func TestWhatFollows(t *testing.T) {
	for seed := range 300 {
		d := &dice{uint64(seed)}
		a, e := New(d.core(1 + d.under(40)))
		if e != api.OK {
			t.Fatalf("New: %d", e)
		}
		x := a.Blocks()
		var w, alike []byte
		for range 1 + d.under(8) {
			b := byte('a' + d.under(6))
			l := bytes.List(x.Set(x.Of(b)))
			w, alike = append(w, b), append(alike, l[d.under(len(l))])
		}
		v := a.Vector(string(w))
		if !slices.Equal(v, a.Vector(string(alike))) || a.Ways(string(w)) != a.Ways(string(alike)) {
			t.Fatalf("%q and %q aren't alike", w, alike)
		}
		cut := 1 + d.under(len(w))
		u := a.Vector(string(w[:cut]))
		for _, b := range w[cut:] {
			u = a.Step(u, b)
		}
		if !slices.Equal(u, v) || !slices.Equal(a.Begin(w[0]), a.Vector(string(w[:1]))) {
			t.Fatalf("%q: %v, not %v", w, u, v)
		}
	}
}
