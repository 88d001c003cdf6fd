package pump

import (
	"testing"

	"caltrop/api"
	"caltrop/auto"
	"caltrop/bytes"
	"caltrop/core"
	"caltrop/degree"
	"caltrop/sample"
)

// A model tells runs one by one, by the weights alone.
type model struct {
	*auto.Auto
	first  []int
	follow [][]int
}

// modelOf is the model of an automaton.
func modelOf(a *auto.Auto) model {
	m := model{a, a.First(), nil}
	for p := range a.Places() {
		m.follow = append(m.follow, a.Follow(p))
	}
	return m
}

// on is how many runs read a word, from what may come next on, up to a position.
func (m model) on(next []int, w string, to int) int {
	n := 0
	for p, ways := range next {
		switch {
		case ways == 0 || !bytes.Has(m.Set(p), w[0]):
		case len(w) > 1:
			n += ways * m.on(m.follow[p], w[1:], to)
		case p == to:
			n += ways
		}
	}
	return n
}

// begun is how many runs on a word end with a position.
func (m model) begun(x string, p int) int {
	if x == "" {
		return 0
	}
	return m.on(m.first, x, p)
}

// gone is how many runs a word, that isn't empty, leads from one position to another
// one.
func (m model) gone(p int, y string, q int) int {
	return m.on(m.follow[p], y, q)
}

// there tells whether there is a position of this number.
func (m model) there(p int) bool {
	return 0 <= p && p < m.Places()
}

// family tells whether a family, of short words, is the automaton's.
func (m model) family(f Family) bool {
	if !m.there(f.P) || !m.there(f.Q) || f.Y == "" || m.begun(f.X, f.P) == 0 {
		return false
	}
	switch f.Kind {
	case 1:
		return f.P != f.Q && m.gone(f.P, f.Y, f.P) > 0 && m.gone(f.P, f.Y, f.Q) > 0 && m.gone(f.Q, f.Y, f.Q) > 0
	case 2:
		return f.P == f.Q && m.gone(f.P, f.Y, f.P) >= 2
	}
	return false
}

// shortest is how long the shortest words are on which a run ends with a position,
// of all words up to a length; -1 if there is none.
func (m model) shortest(p int, words []string) int {
	for _, w := range words { // the short ones first
		if m.begun(w, p) > 0 {
			return len(w)
		}
	}
	return -1
}

// autoOf is the automaton of a core.
func autoOf(t *testing.T, c *core.Node) *auto.Auto {
	t.Helper()
	a, e := auto.New(c)
	if e != api.OK {
		t.Fatalf("New of %s: %d", core.Text(c), e)
	}
	return a
}

// holdFound holds what is found of an automaton against how fast its runs grow, and
// tells the family.
func holdFound(t *testing.T, what string, a *auto.Auto) (Family, bool) {
	t.Helper()
	f, e := Find(a)
	g, ge := degree.New(a)
	switch {
	case ge != api.OK:
		if e != ge || f != (Family{}) {
			t.Fatalf("Find of %.60s: %v, %d, not %d", what, f, e, ge)
		}
		return f, false
	case g.Kind() == degree.Flat:
		if e != api.ErrNone || f != (Family{}) {
			t.Fatalf("Find of %.60s: %v, %d, but it is flat", what, f, e)
		}
		return f, false
	case e != api.OK || f.Kind != g.Kind() || !Check(a, f):
		t.Fatalf("Find of %.60s: %v, %d, but it is %s", what, f, e, degree.Name(g.Kind()))
	}
	if again, _ := Find(a); again != f {
		t.Fatalf("Find of %.60s: %v, and then %v", what, f, again)
	}
	if max(a.Places(), len(f.X)+3, len(f.Y)+3) <= 8 && !modelOf(a).family(f) {
		t.Fatalf("Find of %.60s: %v is none", what, f)
	}
	holdRuns(t, what, a, f)
	return f, true
}

// holdRuns holds the runs of a family, as the automaton counts them.
func holdRuns(t *testing.T, what string, a *auto.Auto, f Family) {
	t.Helper()
	for k := range 8 {
		w, e := Word(f, k)
		if e != api.OK {
			t.Fatalf("%.60s: Word of %v, %d: %d", what, f, k, e)
		}
		end, floor := k, k*(k+1)/2
		if f.Kind == degree.Wild {
			end, floor = 1<<k, 1<<k
		}
		if n := a.Vector(w)[f.Q]; n < end {
			t.Fatalf("%.60s: %d runs of %v end with %d behind %d pumps", what, n, f, f.Q, k)
		}
		if n := a.Hits(w); n < floor || Floor(f, k) != floor {
			t.Fatalf("%.60s: %d hits of %v behind %d pumps, Floor %d, not %d", what, n, f, k, Floor(f, k), floor)
		}
	}
}

// holdReached holds the words on which runs end with each position.
func holdReached(t *testing.T, what string, a *auto.Auto, words []string) {
	t.Helper()
	m := modelOf(a)
	for p := -2; p < a.Places()+2; p++ {
		want := -1
		if m.there(p) {
			want = m.shortest(p, words)
		}
		w, ok := Reach(a, p)
		switch {
		case want < 0 && (w != "" || ok):
			t.Fatalf("%s: Reach of %d: %q, %v", what, p, w, ok)
		case want >= 0 && (!ok || len(w) != want || m.begun(w, p) == 0):
			t.Fatalf("%s: Reach of %d: %q, %v, not of %d bytes", what, p, w, ok, want)
		}
	}
}

// emptySet is a set that has no byte.
const emptySet = "[^\\x00-\\xff]"

// parts are what patterns are put together of.
var parts = []string{"a*", "[ab]*", "b?", "(a", "|a", ")*", "{1,2}", "ab+", emptySet}

// Of all patterns of a few parts what is found is a family, if there is one, and all
// that can be reached is reached, by all modes.
func TestAllShortPatterns(t *testing.T) {
	words := sample.Words("ab", 6)
	kinds := map[int]int{}
	n := sample.Cores(parts, 4, func(c *core.Node) {
		if len(core.Sets(c)) > 5 {
			return
		}
		a := autoOf(t, c)
		f, _ := holdFound(t, core.Text(c), a)
		kinds[f.Kind]++
		holdReached(t, core.Text(c), a, words)
	})
	if min(n-4000, kinds[0]-1000, kinds[1]-500, kinds[2]-250) < 0 {
		t.Errorf("too few of a sort: %d, %v", n, kinds)
	}
}

// row is a core, and Stars behind it, with something between.
func row(seed, size int) *core.Node {
	c := sample.Core(seed, 3)
	for i := range 2 {
		star := &core.Node{Kind: core.Star, A: sample.Core(3*seed+i, size)}
		c = &core.Node{Kind: core.Cat, A: c, B: star}
	}
	return c
}

func TestCoresAtRandom(t *testing.T) {
	words := sample.Words("abc", 5)
	kinds := map[int]int{}
	far, long := 0, 0
	for seed := range 6000 {
		c := sample.Core(seed, 30)
		if seed%3 > 0 {
			c = row(seed, 4+seed%3)
		}
		if n := len(core.Sets(c)); n < 2 || n > 8 {
			continue
		}
		a := autoOf(t, c)
		if a.Places() <= 5 {
			holdReached(t, core.Text(c), a, words)
		}
		f, _ := holdFound(t, core.Text(c), a)
		kinds[f.Kind]++
		if len(f.X) > 1 {
			far++
		}
		if len(f.Y) > 1 {
			long++
		}
	}
	if min(kinds[0]-500, kinds[1]-300, kinds[2]-500, far-500, long-500) < 0 {
		t.Errorf("too few of a sort: %v, %d with a long prefix, %d with a long pump", kinds, far, long)
	}
}

// A checked family is told as the model tells it, for all short words, all pairs of
// positions, and some that are none, and all kinds, and some that are none.
func TestAllFamilies(t *testing.T) {
	count := map[int]int{}
	sample.Cores([]string{"a*", "[ab]*", "b", "(a", "(b*", "|a", ")*", "(()|())", emptySet}, 4, func(c *core.Node) {
		if n := len(core.Sets(c)); n < 1 || n > 3 {
			return
		}
		a := autoOf(t, c)
		m := modelOf(a)
		for _, x := range []string{"", "a", "b", "\x00", "ab", "ba"} {
			for _, y := range sample.Words("ab", 2) {
				for i := range (a.Places() + 2) * (a.Places() + 2) {
					p, q := i/(a.Places()+2)-1, i%(a.Places()+2)-1
					for kind := range 4 {
						f := Family{kind, x, y, p, q}
						is := m.family(f)
						if Check(a, f) != is {
							t.Fatalf("Check of %s, %v: %v", core.Text(c), f, !is)
						}
						if is {
							count[kind]++
						}
					}
				}
			}
		}
	})
	if min(count[1]-5000, count[2]-2000) < 0 || len(count) != 2 {
		t.Errorf("too few of a sort: %v", count)
	}
}
