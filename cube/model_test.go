package cube

import (
	"slices"
	"testing"

	"caltrop/api"
	"caltrop/auto"
	"caltrop/core"
	"caltrop/member"
	"caltrop/sample"
	"caltrop/square"
)

// alphabet is all bytes that are told apart.
const alphabet = "abcx"

// A model tells of an automaton what the document does, by bytes.
type model struct {
	*auto.Auto
	live []int
}

// on is what some positions go on to by a byte.
func (m model) on(b byte, l ...int) []int {
	return member.Next(m.Auto, l, b)
}

// through is what some positions go on to by a word.
func (m model) through(w string, l ...int) []int {
	for i := range len(w) {
		l = m.on(w[i], l...)
	}
	return l
}

// leads tells whether some bytes, one at least, lead one position to another one.
func (m model) leads(p, q int) bool {
	met := []int{}
	for line := []int{p}; len(line) > 0; line = line[1:] {
		for i := range len(alphabet) {
			for _, next := range m.on(alphabet[i], line[0]) {
				if !slices.Contains(met, next) {
					met = append(met, next)
					line = append(line, next)
				}
			}
		}
	}
	return slices.Contains(met, q)
}

// reach is all triples that one reaches, itself the first one of them.
func (m model) reach(t [3]int) [][3]int {
	met := map[[3]int]bool{t: true}
	line := [][3]int{t}
	for i := 0; i < len(line); i++ {
		for k := range len(alphabet) {
			b := alphabet[k]
			for _, p := range m.on(b, line[i][0]) {
				for _, q := range m.on(b, line[i][1]) {
					for _, r := range m.on(b, line[i][2]) {
						if x := [3]int{p, q, r}; !met[x] {
							met[x] = true
							line = append(line, x)
						}
					}
				}
			}
		}
	}
	return line
}

// common tells whether the sets of two positions have a byte in common.
func (m model) common(p, q int) bool {
	a, b := m.Set(p), m.Set(q)
	for i := range a {
		if a[i]&b[i] > 0 {
			return true
		}
	}
	return false
}

// triples is how many triples are met.
func (m model) triples() int {
	n := 0
	for _, p := range m.live {
		for _, q := range m.live {
			if p != q && m.leads(p, p) && m.leads(p, q) && m.leads(q, q) && m.common(p, q) {
				n += len(m.reach([3]int{p, p, q}))
			}
		}
	}
	return n
}

// feeds tells whether a position feeds another one, by what all words lead the two
// to: what a word leads the first one to, and the other one, as two sets.
func (m model) feeds(p, q int) bool {
	type sets struct{ first, second uint }
	bits := func(l []int) uint {
		n := uint(0)
		for _, p := range l {
			n |= 1 << p
		}
		return n
	}
	list := func(n uint) []int {
		var l []int
		for p := range m.Places() {
			if n&(1<<p) > 0 {
				l = append(l, p)
			}
		}
		return l
	}
	met := map[sets]bool{}
	for line := []sets{{1 << p, 1 << q}}; len(line) > 0; line = line[1:] {
		for i := range len(alphabet) {
			x := sets{bits(m.on(alphabet[i], list(line[0].first)...)), bits(m.on(alphabet[i], list(line[0].second)...))}
			if x.first&(1<<p) > 0 && x.first&(1<<q) > 0 && x.second&(1<<q) > 0 {
				return true
			}
			if !met[x] {
				met[x] = true
				line = append(line, x)
			}
		}
	}
	return false
}

// feeding is all pairs of which the one feeds the other.
func (m model) feeding() [][2]int {
	var l [][2]int
	for _, p := range m.live {
		for _, q := range m.live {
			if p != q && m.feeds(p, q) {
				l = append(l, [2]int{p, q})
			}
		}
	}
	return l
}

// check holds a cube against the model.
func check(t *testing.T, c *core.Node) *Cube {
	t.Helper()
	a, e := auto.New(c)
	if e != api.OK {
		t.Fatalf("New of %s: %d", core.Text(c), e)
	}
	x := cubeOf(t, core.Text(c), a)
	m := model{a, x.Live()}
	if n := m.triples(); x.Triples() != n {
		t.Fatalf("%s: Triples: %d, not %d", core.Text(c), x.Triples(), n)
	}
	hold(t, core.Text(c), x, m.feeding())
	return x
}

// cubeOf is the cube of an automaton.
func cubeOf(t *testing.T, what string, a *auto.Auto) *Cube {
	t.Helper()
	s, e := square.New(a)
	if e != api.OK {
		t.Fatalf("%.60s: the square's New: %d", what, e)
	}
	c, e := New(s)
	if c == nil || e != api.OK {
		t.Fatalf("%.60s: New: %v, %d", what, c, e)
	}
	return c
}

// hold holds what feeds what, and the loops of it, against what ought to.
func hold(t *testing.T, what string, c *Cube, feeds [][2]int) {
	t.Helper()
	if l := c.All(); !slices.Equal(l, feeds) {
		t.Fatalf("%s: All: %v, not %v", what, l, feeds)
	}
	x, ok := c.First()
	if want := append(slices.Clone(feeds), [2]int{})[0]; x != want || ok != (len(feeds) > 0) {
		t.Fatalf("%s: First: %v, %v", what, x, ok)
	}
	for p := -1; p <= c.Places(); p++ {
		for q := -1; q <= c.Places(); q++ {
			w, ok := c.Loop(p, q)
			if want := slices.Contains(feeds, [2]int{p, q}); c.Feeds(p, q) != want || ok != want || !ok && w != "" {
				t.Fatalf("%s: %d, %d: %v, %q, %v", what, p, q, c.Feeds(p, q), w, ok)
			}
			if ok {
				loop(t, what, c, p, q, w)
			}
		}
	}
}

// loop holds a loop against what it has to do: it leads the one position to itself,
// and to the other one, and that to itself; and so to that in k runs, k times.
func loop(t *testing.T, what string, c *Cube, p, q int, w string) {
	t.Helper()
	m := model{c.Auto, nil}
	first, second := m.through(w, p), m.through(w, q)
	if w == "" || !slices.Contains(first, p) || !slices.Contains(first, q) || !slices.Contains(second, q) {
		t.Fatalf("%s: Loop(%d, %d): %.80q, to %v, and to %v", what, p, q, w, first, second)
	}
	v := make([]int, c.Places())
	v[p] = 1
	for k := range 5 {
		if v[q] < k {
			t.Fatalf("%s: %d runs end with %d behind %d times %.80q", what, v[q], q, k, w)
		}
		for i := range len(w) {
			v = c.Step(v, w[i])
		}
	}
}

// All patterns of a few parts are as the model tells, by all modes.
func TestAllShortPatterns(t *testing.T) {
	feeds := 0
	n := sample.Cores([]string{"a*", "[ab]*", "b?", "(a", "|a", ")*", "{1,2}", "ab+", empty}, 4, func(c *core.Node) {
		if len(core.Sets(c)) <= 6 && len(check(t, c).All()) > 0 {
			feeds++
		}
	})
	if n < 4000 || feeds < 1000 {
		t.Errorf("just %d patterns, of %d one feeds another one", n, feeds)
	}
}

// row is a Cat of Stars, with something between.
func row(seed, size int) *core.Node {
	star := func(seed int) *core.Node {
		return &core.Node{Kind: core.Star, A: sample.Core(seed, size)}
	}
	cat := func(a, b *core.Node) *core.Node {
		return &core.Node{Kind: core.Cat, A: a, B: b}
	}
	return cat(star(3*seed), cat(sample.Core(3*seed+1, size), star(3*seed+2)))
}

func TestCoresAtRandom(t *testing.T) {
	held, some, none, flat, long := 0, 0, 0, 0, 0
	for seed := range 2400 {
		c := row(seed, 4+seed%3)
		n := len(core.Sets(c))
		if n < 3 || n > 7 {
			continue
		}
		held++
		x := check(t, c)
		l := x.All()
		switch {
		case len(l) == 0 && x.Triples() > 0:
			none++
		case 0 < len(l) && len(l) < 6:
			some++
		}
		if len(l) > 0 && len(x.Square.All()) == 0 {
			flat++
		}
		for _, y := range l {
			if w, _ := x.Loop(y[0], y[1]); len(w) > 2 {
				long++
				break
			}
		}
	}
	if min(held-800, some-300, none-120, flat-120, long-200) < 0 {
		t.Errorf("too few of a sort: %d held, %d of which some feed, %d with triples alone, %d that don't split, %d with long loops", held, some, none, flat, long)
	}
}
