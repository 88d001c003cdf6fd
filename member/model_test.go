package member

import (
	"slices"
	"testing"

	"caltrop/api"
	"caltrop/auto"
	"caltrop/bytes"
	"caltrop/core"
)

// A model tells what is meant by the core alone, with no positions.
type model struct {
	word string
}

// ends are the places up to which a node may go from some others, as bits.
func (m model) ends(c *core.Node, from uint64) uint64 {
	switch c.Kind {
	case core.Empty:
		return from
	case core.Set:
		var to uint64
		for i := range len(m.word) {
			if from>>i&1 == 1 && bytes.Has(c.Set, m.word[i]) {
				to |= 1 << (i + 1)
			}
		}
		return to
	case core.Alt:
		return m.ends(c.A, from) | m.ends(c.B, from)
	case core.Cat:
		return m.ends(c.B, m.ends(c.A, from))
	}
	for {
		more := from | m.ends(c.A, from)
		if more == from {
			return from
		}
		from = more
	}
}

// within is the first part of the word that is meant, then the shortest one.
func (m model) within(c *core.Node) (int, int, bool) {
	for from := range len(m.word) + 1 {
		ends := m.ends(c, 1<<from)
		for to := from; to <= len(m.word); to++ {
			if ends>>to&1 == 1 {
				return from, to, true
			}
		}
	}
	return 0, 0, false
}

// check holds an automaton against the model, by a word.
func check(t *testing.T, a *auto.Auto, c *core.Node, w string) {
	t.Helper()
	m := model{w}
	ends := m.ends(c, 1)
	meant := Beginnings(a, w)
	if len(meant) != len(w)+1 {
		t.Fatalf("%s of %q: Beginnings: %v", core.Text(c), w, meant)
	}
	var next []int
	for i, got := range meant {
		want := ends>>i&1 == 1
		alive := Alive(a, w[:i])
		if i == 1 {
			next = alive
		} else if i > 1 {
			next = Next(a, next, w[i-1])
		}
		if got != want || Means(a, w[:i]) != want || i > 0 && Ends(a, alive) != want {
			t.Fatalf("%s of %q: beginning %d: %v, %v, %v", core.Text(c), w, i, got, Means(a, w[:i]), Ends(a, alive))
		}
		if !slices.Equal(next, alive) || !slices.IsSorted(alive) {
			t.Fatalf("%s of %q: beginning %d: %v, %v", core.Text(c), w, i, next, alive)
		}
		for _, p := range alive {
			if !slices.Contains(Reached(a), p) {
				t.Fatalf("%s: %d is reached by %q", core.Text(c), p, w[:i])
			}
		}
	}
	from, to, ok := Within(a, w)
	wantFrom, wantTo, want := m.within(c)
	if from != wantFrom || to != wantTo || ok != want {
		t.Fatalf("%s within %q: %d, %d, %v, not %d, %d, %v", core.Text(c), w, from, to, ok, wantFrom, wantTo, want)
	}
}

// words are all words of some bytes, up to a length, the short ones first.
func words(alphabet string, length int) []string {
	l := []string{""}
	for i := 0; i < len(l) && len(l[i]) < length; i++ {
		for _, b := range []byte(alphabet) {
			l = append(l, l[i]+string(rune(b)))
		}
	}
	return l
}

// shortest holds a shortest word against all words, the short ones first.
func shortest(t *testing.T, a *auto.Auto, c *core.Node, some []string) {
	t.Helper()
	w, ok := Shortest(a)
	for _, x := range some {
		if (model{x}).ends(c, 1)>>len(x)&1 == 1 {
			if !ok || len(w) != len(x) || !Means(a, w) {
				t.Fatalf("%s: Shortest: %q, %v, not %q", core.Text(c), w, ok, x)
			}
			return
		}
	}
	if ok && len(w) <= len(some[len(some)-1]) {
		t.Fatalf("%s: Shortest: %q", core.Text(c), w)
	}
}

// All patterns of a few parts are as the model tells, by all modes.
func TestAllShortPatterns(t *testing.T) {
	parts := []string{"a", "[bc]", "(", "(?:", ")", "|", "*", "*?", "+", "?", "??", "{0}", "{2}", "{1,3}?", empty}
	some := words("abx", 3)
	good := 0
	var all func(p string, left int)
	all = func(p string, left int) {
		for mode := core.Full; mode <= core.Search; mode++ {
			c, _, e := core.Parse(p, mode)
			if e != api.OK {
				continue
			}
			good++
			a, e := auto.New(c)
			if e != api.OK {
				t.Fatalf("New of %s: %d", p, e)
			}
			shortest(t, a, c, some)
			for _, w := range some {
				check(t, a, c, w)
			}
		}
		for _, part := range parts[:min(left, 1)*len(parts)] {
			all(p+part, left-1)
		}
	}
	all("", 3)
	if good < 400 {
		t.Errorf("just %d patterns", good)
	}
}

// A dice makes cores that are the same each time.
type dice struct {
	seed uint64
}

func (d *dice) under(n int) int {
	d.seed = d.seed*6364136223846793005 + 1442695040888963407
	return int(d.seed>>33) % n
}

// core makes a core of about so many nodes.
func (d *dice) core(size int) *core.Node {
	switch {
	case size > 1 && d.under(5) == 0:
		return &core.Node{Kind: core.Star, Lazy: d.under(2) == 0, A: d.core(size - 1)}
	case size > 1:
		left := 1 + d.under(size)
		return &core.Node{Kind: core.Cat + d.under(3)/2, A: d.core(left), B: d.core(max(1, size-left))}
	case d.under(6) == 0:
		return &core.Node{}
	}
	lo := byte('a' + d.under(3))
	s := &core.Node{Kind: core.Set, Set: bytes.Range(lo, lo+byte(d.under(2)))}
	if d.under(12) == 0 {
		s.Set = api.Set{}
	}
	return s
}

func TestCoresAtRandom(t *testing.T) {
	found := 0
	some := words("abcd", 4)
	for seed := range 1200 {
		d := &dice{uint64(seed)}
		c := d.core(1 + d.under(20))
		a, e := auto.New(c)
		if e != api.OK {
			t.Fatalf("New of %s: %d", core.Text(c), e)
		}
		shortest(t, a, c, some)
		for range 6 {
			var w []byte
			for range d.under(14) {
				w = append(w, byte('a'+d.under(4)))
			}
			check(t, a, c, string(w))
			if from, to, _ := Within(a, string(w)); from > 0 && to > from+1 {
				found++
			}
		}
	}
	if found < 300 {
		t.Errorf("just %d parts that are told apart", found)
	}
}
