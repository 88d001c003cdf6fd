package backtrack

import (
	"slices"
	"testing"

	"caltrop/api"
	"caltrop/bytes"
	"caltrop/core"
	"caltrop/sample"
)

// A model tries cores as the document tells it, by calls within calls: it goes
// each way, and looks nowhere ahead.
type model struct {
	Result
	word   string
	limit  int
	enough int // how many ways are asked for
	path   []int
	ways   [][]int
}

// try tries a core, of which the first position is told, and tells whether
// nothing more is asked for.
func (m *model) try(c *core.Node, place, at int, todo func(at int) bool) bool {
	switch c.Kind {
	case core.Empty:
		return todo(at)
	case core.Set:
		return m.read(c.Set, place, at) && (m.Stopped || todo(at+1))
	case core.Cat:
		return m.try(c.A, place, at, func(at int) bool {
			return m.try(c.B, place+sets(c.A), at, todo)
		})
	case core.Alt:
		return m.try(c.A, place, at, todo) || m.try(c.B, place+sets(c.A), at, todo)
	}
	own := func(at int) bool {
		return m.try(c.A, place, at, func(to int) bool {
			return to > at && m.try(c, place, to, todo)
		})
	}
	if c.Lazy {
		return todo(at) || own(at)
	}
	return own(at) || todo(at)
}

// sets is how many sets a core has.
func sets(c *core.Node) int {
	switch {
	case c == nil:
		return 0
	case c.Kind == core.Set:
		return 1
	}
	return sets(c.A) + sets(c.B)
}

// read reads a byte, or stops, and tells whether it did one of these.
func (m *model) read(s api.Set, place, at int) bool {
	if at == len(m.word) || !bytes.Has(s, m.word[at]) {
		return false
	}
	if m.Hits == m.limit {
		m.Stopped = true
		return true
	}
	m.Hits++
	m.Reach = max(m.Reach, at+1)
	m.path = append(m.path[:at], place)
	return true
}

// modelOf is what comes of a core, till so many ways are found.
func modelOf(c *core.Node, w string, limit, enough int) *model {
	m := &model{word: w, limit: max(limit, 0), enough: enough}
	m.try(c, 0, 0, func(at int) bool {
		if at < len(w) {
			return false
		}
		m.Found = true
		m.Ways++
		m.ways = append(m.ways, slices.Clone(m.path[:at]))
		return m.Ways == m.enough
	})
	return m
}

// matcher is a matcher of a core.
func matcher(t *testing.T, c *core.Node, w string, limit int) *Matcher {
	t.Helper()
	m, e := New(c, w, limit)
	if m == nil || e != api.OK {
		t.Fatalf("New of %.60s: %d", core.Text(c), e)
	}
	if m.Result != (Result{}) {
		t.Fatalf("New of %.60s: %v", core.Text(c), m.Result)
	}
	return m
}

// far is more ways, and hits, than the model goes through.
const far = 1 << 40

// check holds a matcher against the model, by a word and a limit: its first way,
// all of its ways together, and each of them.
func check(t *testing.T, c *core.Node, w string, limit int) {
	t.Helper()
	one, all := modelOf(c, w, limit, 1), modelOf(c, w, limit, far)
	m := matcher(t, c, w, limit)
	if m.Next() != one.Found || m.Result != one.Result {
		t.Fatalf("the first one of %s of %q up to %d: %v, not %v", core.Text(c), w, limit, m.Result, one.Result)
	}
	m = matcher(t, c, w, limit)
	if m.Rest(); m.Result != all.Result {
		t.Fatalf("all of %s of %q up to %d: %v, not %v", core.Text(c), w, limit, m.Result, all.Result)
	}
	m = matcher(t, c, w, limit)
	for _, way := range all.ways {
		if !m.Next() || !slices.Equal(m.Path(), way) {
			t.Fatalf("%s of %q up to %d: by %v, not %v", core.Text(c), w, limit, m.Path(), way)
		}
	}
	if m.Next() || m.Next() || m.Result != all.Result {
		t.Fatalf("each of %s of %q up to %d: %v, not %v", core.Text(c), w, limit, m.Result, all.Result)
	}
	if n := sets(c); m.Places() != n {
		t.Fatalf("%s: %d positions, not %d", core.Text(c), m.Places(), n)
	}
}

// checkAll checks by limits about all hits that there are; up to some, if there
// are more than the model can go through.
func checkAll(t *testing.T, c *core.Node, w string) {
	t.Helper()
	hits := modelOf(c, w, 500, far).Hits
	for _, limit := range []int{-1, 0, 1, 2, 3, hits / 3, hits / 2, hits - 1, hits, hits + 1} {
		check(t, c, w, min(limit, 500))
	}
}

// All patterns of a few parts are as the model tells, by all modes.
func TestAllShortPatterns(t *testing.T) {
	parts := []string{"a", "[ab]", "b", "(", "(|", ")", "|", "*", "*?", "+", "?", "??", "{2}", "{1,3}?"}
	words := sample.Words("ab", 3)
	if n := sample.Cores(parts, 3, func(c *core.Node) {
		for _, w := range words {
			checkAll(t, c, w)
		}
	}); n < 1200 {
		t.Errorf("just %d patterns", n)
	}
}

// A dice makes cores that are the same each time.
type dice struct {
	seed uint64
}

func (d *dice) under(n int) int {
	d.seed = d.seed*6364136223846793005 + 1442695040888963407
	return int(d.seed>>33) % n
}

// core makes a core of about so many nodes, with many that may be nothing.
func (d *dice) core(size int) *core.Node {
	switch {
	case size > 1 && d.under(5) == 0:
		return &core.Node{Kind: core.Star, Lazy: d.under(2) == 0, A: d.core(size - 1)}
	case size > 1:
		left := 1 + d.under(size)
		return &core.Node{Kind: core.Cat + d.under(2), A: d.core(left), B: d.core(max(1, size-left))}
	case d.under(3) == 0:
		return &core.Node{}
	}
	lo := byte('a' + d.under(3))
	return &core.Node{Kind: core.Set, Set: bytes.Range(lo, lo+byte(d.under(2)))}
}

func TestCoresAtRandom(t *testing.T) {
	many, stopped := 0, 0
	for seed := range 3000 {
		d := &dice{uint64(seed)}
		c := d.core(1 + d.under(20))
		for range 4 {
			var w []byte
			for range d.under(7) {
				w = append(w, byte('a'+d.under(3)))
			}
			r := modelOf(c, string(w), 500, 1000)
			if r.Ways == 1000 { // of these each check would be long
				continue
			}
			checkAll(t, c, string(w))
			if r.Ways > r.Hits {
				many++
			}
			if r.Stopped {
				stopped++
			}
		}
	}
	if many < 300 || stopped < 5 {
		t.Errorf("too few of a sort: %d, %d", many, stopped)
	}
}
