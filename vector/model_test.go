package vector

import (
	"slices"
	"testing"

	"caltrop/api"
	"caltrop/auto"
	"caltrop/core"
	"caltrop/degree"
	"caltrop/nat"
	"caltrop/sample"
)

// alphabet is one byte of each sort: 0 stands for those that no pattern names, as
// the least one of them.
const alphabet = "\x00abc"

// most is how many vectors are looked for.
const most = 150

// A model tells all vectors by all words, as they come, each gone through from its
// beginning on. It has too many of them, if it tells none.
func model(a *auto.Auto) []met {
	var list []met
	line := []string{""}
	for i := 0; i < len(line); i++ {
		for k := range len(alphabet) {
			w := line[i] + alphabet[k:k+1]
			v := a.Vector(w)
			if slices.Max(append(v, 0)) == 0 || slices.ContainsFunc(list, func(x met) bool { return slices.Equal(x.v, v) }) {
				continue
			}
			if len(list) == most || slices.Max(v) == api.Most {
				return nil
			}
			list = append(list, met{w, v})
			line = append(line, w)
		}
	}
	return append([]met{}, list...)
}

// check holds all vectors against the model, and tells how many there are, if there
// aren't ever more of them.
func check(t *testing.T, c *core.Node) (int, bool) {
	t.Helper()
	a, e := auto.New(c)
	if e != api.OK {
		t.Fatalf("New of %s: %d", core.Text(c), e)
	}
	want := model(a)
	x, e := New(a, most)
	grows(t, c, a, e)
	if want == nil {
		if x != nil || e != api.ErrFull {
			t.Fatalf("New of %s: %d vectors, %d", core.Text(c), x.Count(), e)
		}
		return 0, false
	}
	if e != api.OK || x.Count() != len(want) {
		t.Fatalf("New of %s: %d vectors, %d, not %d", core.Text(c), x.Count(), e, len(want))
	}
	hold(t, c, x, want)
	budgets(t, c, a, len(want))
	hits(t, c, x)
	return len(want), true
}

// hold holds what is told of vectors against those that there are.
func hold(t *testing.T, c *core.Node, x *Vectors, want []met) {
	t.Helper()
	sum, word := 0, ""
	greatest := make([]int, x.Places())
	for i, y := range want {
		if v, w, ok := x.At(i); !slices.Equal(v, y.v) || w != y.word || !ok {
			t.Fatalf("%s: At(%d): %v, %q, %v, not %v, %q", core.Text(c), i, v, w, ok, y.v, y.word)
		}
		if n := nat.Sum(y.v); n > sum {
			sum, word = n, y.word
		}
		for p, n := range y.v {
			greatest[p] = max(greatest[p], n)
		}
	}
	if x.Most() != sum || x.Word() != word {
		t.Fatalf("%s: Most %d, %q, not %d, %q", core.Text(c), x.Most(), x.Word(), sum, word)
	}
	for p, n := range greatest {
		if x.Greatest(p) != n {
			t.Fatalf("%s: Greatest(%d): %d, not %d", core.Text(c), p, x.Greatest(p), n)
		}
	}
}

// budgets holds what too small a budget answers, and one that is just enough.
func budgets(t *testing.T, c *core.Node, a *auto.Auto, count int) {
	t.Helper()
	if x, e := New(a, count); e != api.OK || x.Count() != count {
		t.Fatalf("New of %s, %d: %d", core.Text(c), count, e)
	}
	if x, e := New(a, count-1); count > 0 && (x != nil || e != api.ErrFull) {
		t.Fatalf("New of %s, %d: %d", core.Text(c), count-1, e)
	}
}

// hits holds the hits on words against their bound.
func hits(t *testing.T, c *core.Node, x *Vectors) {
	t.Helper()
	for _, w := range sample.Words("abc", 4) {
		if n := x.Hits(w); n > x.Bound(len(w)) {
			t.Fatalf("%s: %d hits on %q, not %d at most", core.Text(c), n, w, x.Bound(len(w)))
		}
	}
}

// grows holds whether there are ever more vectors against how fast runs grow: of a
// small automaton that is flat there are few.
func grows(t *testing.T, c *core.Node, a *auto.Auto, e api.Errno) {
	t.Helper()
	g, of := degree.New(a)
	if of != api.OK || (g.Kind() == degree.Flat) != (e == api.OK) {
		t.Fatalf("New of %s: %d, but it is %s", core.Text(c), e, degree.Name(g.Kind()))
	}
}

// All patterns of a few parts have the vectors that the model tells, by all modes.
func TestAllShortPatterns(t *testing.T) {
	flat := 0
	n := sample.Cores([]string{"a", "[ab]*", "[^a]", "(a", "|b", ")*", "(()|", ")", "{1,2}", "+"}, 4, func(c *core.Node) {
		if len(core.Sets(c)) > 5 {
			return
		}
		if _, ok := check(t, c); ok {
			flat++
		}
	})
	if n < 4000 || flat < 2000 || n-flat < 500 {
		t.Errorf("just %d patterns, %d flat", n, flat)
	}
}

func TestCoresAtRandom(t *testing.T) {
	held, flat, long := 0, 0, 0
	for seed := range 6000 {
		c := sample.Core(seed, 30)
		n := len(core.Sets(c))
		if n < 3 || n > 9 {
			continue
		}
		held++
		count, ok := check(t, c)
		if ok {
			flat++
		}
		if count > n {
			long++
		}
	}
	if min(held-1500, flat-500, held-flat-500, long-200) < 0 {
		t.Errorf("too few of a sort: %d held, %d flat, %d with more vectors than positions", held, flat, long)
	}
}
