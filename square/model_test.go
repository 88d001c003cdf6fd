package square

import (
	"slices"
	"testing"

	"caltrop/api"
	"caltrop/auto"
	"caltrop/core"
	"caltrop/member"
	"caltrop/sample"
)

// alphabet is all bytes that are told apart.
const alphabet = "abcx"

// A model tells of an automaton what the document does, by bytes and vectors.
type model struct {
	*auto.Auto
}

// single is the vector of one run that ends with a position.
func (m model) single(p int) []int {
	v := make([]int, m.Places())
	v[p] = 1
	return v
}

// through is the vector behind a word, from another one on.
func (m model) through(v []int, w string) []int {
	for i := range len(w) {
		v = m.Step(v, w[i])
	}
	return v
}

// words are for each position that some word leads to the shortest one.
func (m model) words() map[int]string {
	met := map[int]string{}
	for line := []string{""}; len(line) > 0; {
		w := line[0]
		line = line[1:]
		for i := range len(alphabet) {
			next, new := w+alphabet[i:i+1], false
			for p, n := range m.Vector(next) {
				if _, ok := met[p]; n > 0 && !ok {
					met[p], new = next, true
				}
			}
			if new {
				line = append(line, next)
			}
		}
	}
	return met
}

// live is the positions that can be reached.
func (m model) live() []int {
	var l []int
	words := m.words()
	for p := range m.Places() {
		if _, ok := words[p]; ok {
			l = append(l, p)
		}
	}
	return l
}

// pairs is how many pairs are reached from those of a live one and itself.
func (m model) pairs() int {
	var line [][2]int
	for _, p := range m.live() {
		line = append(line, [2]int{p, p})
	}
	for i := 0; i < len(line); i++ {
		for k := range len(alphabet) {
			for _, p := range member.Next(m.Auto, line[i][:1], alphabet[k]) {
				for _, q := range member.Next(m.Auto, line[i][1:], alphabet[k]) {
					if x := [2]int{p, q}; !slices.Contains(line, x) {
						line = append(line, x)
					}
				}
			}
		}
	}
	return len(line)
}

// splits tells whether some word leads a position to itself in two runs, by all
// vectors that there are from it on, where more than two runs are as two.
func (m model) splits(p int) bool {
	met := map[string]bool{}
	for line := [][]int{m.single(p)}; len(line) > 0; line = line[1:] {
		for i := range len(alphabet) {
			v := m.Step(line[0], alphabet[i])
			text := ""
			for q := range v {
				v[q] = min(v[q], 2)
				text += string(rune('0' + v[q]))
			}
			if v[p] > 1 {
				return true
			}
			if !met[text] {
				met[text] = true
				line = append(line, v)
			}
		}
	}
	return false
}

// check holds a square against the model.
func check(t *testing.T, c *core.Node) *Square {
	t.Helper()
	a, e := auto.New(c)
	if e != api.OK {
		t.Fatalf("New of %s: %d", core.Text(c), e)
	}
	s, e := New(a)
	if s == nil || e != api.OK {
		t.Fatalf("New of %s: %v, %d", core.Text(c), s, e)
	}
	m := model{a}
	live := m.live()
	if l := s.Live(); !slices.Equal(l, live) {
		t.Fatalf("%s: Live: %v, not %v", core.Text(c), l, live)
	}
	if n := m.pairs(); s.Pairs() != n {
		t.Fatalf("%s: Pairs: %d, not %d", core.Text(c), s.Pairs(), n)
	}
	var split []int
	for _, p := range live {
		if m.splits(p) {
			split = append(split, p)
		}
	}
	hold(t, core.Text(c), s, split)
	return s
}

// hold holds what splits, and the loops of it, against what ought to split.
func hold(t *testing.T, what string, s *Square, split []int) {
	t.Helper()
	if l := s.All(); !slices.Equal(l, split) {
		t.Fatalf("%s: All: %v, not %v", what, l, split)
	}
	p, ok := s.First()
	if want := append(slices.Clone(split), 0)[0]; p != want || ok != (len(split) > 0) {
		t.Fatalf("%s: First: %d, %v", what, p, ok)
	}
	words := model{s.Auto}.words()
	for p := -2; p < s.Places()+2; p++ {
		w, ok := s.Loop(p)
		if want := slices.Contains(split, p); s.Splits(p) != want || ok != want || !ok && w != "" {
			t.Fatalf("%s: %d: %v, %q, %v", what, p, s.Splits(p), w, ok)
		}
		if ok {
			loop(t, what, s.Auto, p, words[p], w)
		}
	}
}

// loop holds a loop against what it has to do: it leads a position to itself in two
// runs, and so in 2^k, k times.
func loop(t *testing.T, what string, a *auto.Auto, p int, ahead, w string) {
	t.Helper()
	m := model{a}
	if n := m.through(m.single(p), w)[p]; n < 2 || w == "" || len(w) > 8000 {
		t.Fatalf("%s: Loop(%d): %.80q, of %d bytes, in %d runs", what, p, w, len(w), n)
	}
	v := a.Vector(ahead)
	for k := range 65 {
		floor := api.Most
		if k < 63 {
			floor = 1 << k
		}
		if v[p] < floor {
			t.Fatalf("%s: %d runs end with %d behind %q and %d times %q", what, v[p], p, ahead, k, w)
		}
		v = m.through(v, w)
	}
}

// All patterns of a few parts are as the model tells, by all modes.
func TestAllShortPatterns(t *testing.T) {
	splits := 0
	n := sample.Cores([]string{"a", "[ab]b", "(a", "|a", "b|", ")*", "*", "+?", "?", "{1,2}", empty}, 4, func(c *core.Node) {
		if len(core.Sets(c)) <= 5 && len(check(t, c).All()) > 0 {
			splits++
		}
	})
	if n < 4000 || splits < 50 {
		t.Errorf("just %d patterns, %d split", n, splits)
	}
}

func TestCoresAtRandom(t *testing.T) {
	held, some, dead, long := 0, 0, 0, 0
	for seed := range 6000 {
		c := sample.Core(seed, 30)
		n := len(core.Sets(c))
		if n < 3 || n > 9 {
			continue
		}
		held++
		s := check(t, c)
		l := s.All()
		if 0 < len(l) && len(l) < len(s.Live()) {
			some++
		}
		if len(s.Live()) < s.Places() {
			dead++
		}
		for _, p := range l {
			if w, _ := s.Loop(p); len(w) > 2 {
				long++
				break
			}
		}
	}
	if min(held-1500, some-200, dead-200, long-100) < 0 {
		t.Errorf("too few of a sort: %d held, %d of which some split, %d with dead ones, %d with long loops", held, some, dead, long)
	}
}
