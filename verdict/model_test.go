package verdict

import (
	"math"
	"slices"
	"testing"

	"caltrop/api"
	"caltrop/auto"
	"caltrop/bytes"
	"caltrop/core"
	"caltrop/degree"
	"caltrop/match"
	"caltrop/member"
	"caltrop/nat"
	"caltrop/printer"
	"caltrop/pump"
	"caltrop/sample"
	"caltrop/stop"
)

// alphabet is one byte of each sort, rising: 0 stands for those that no pattern
// names, the newline is what a point doesn't take.
const alphabet = "\x00\nabc"

// A model tells what there is to count, by the weights alone.
type model struct {
	*auto.Auto
	live   []int
	next   map[step][]int // what a position leads to by a byte
	behind map[int][]int  // what it leads to by one byte or more
}

// A step is a byte, read behind a position.
type step struct {
	p int
	b byte
}

// A side is up to three runs side by side, each by the position that it ends with.
type side [3]int

// none is a run that isn't there.
const none = -1

// modelOf is the model of an automaton.
func modelOf(a *auto.Auto) model {
	m := model{a, nil, map[step][]int{}, map[int][]int{}}
	for i := range len(alphabet) {
		m.next[step{none, alphabet[i]}] = []int{none}
		for p := range a.Places() {
			m.next[step{p, alphabet[i]}] = m.reads(a.Follow(p), alphabet[i])
		}
	}
	var first []int
	for i := range len(alphabet) {
		first = append(first, m.reads(a.First(), alphabet[i])...)
	}
	m.live = m.ends(first)
	for p := range a.Places() {
		var next []int
		for i := range len(alphabet) {
			next = append(next, m.next[step{p, alphabet[i]}]...)
		}
		m.behind[p] = m.ends(next)
	}
	return m
}

// reads is those of a list, with a number above 0, that read a byte.
func (m model) reads(l []int, b byte) []int {
	var some []int
	for p, n := range l {
		if n > 0 && bytes.Has(m.Set(p), b) {
			some = append(some, p)
		}
	}
	return some
}

// reach is all that some sides lead to, themselves among it.
func (m model) reach(from []side) []side {
	met := map[side]int{}
	var line []side
	meet := func(x side) {
		if met[x] == 0 {
			met[x] = 1
			line = append(line, x)
		}
	}
	for _, x := range from {
		meet(x)
	}
	for i := 0; i < len(line); i++ {
		for k := range len(alphabet) {
			for _, p := range m.next[step{line[i][0], alphabet[k]}] {
				for _, q := range m.next[step{line[i][1], alphabet[k]}] {
					for _, r := range m.next[step{line[i][2], alphabet[k]}] {
						meet(side{p, q, r})
					}
				}
			}
		}
	}
	return line
}

// ends is all positions that some lead to, themselves among it, rising.
func (m model) ends(from []int) []int {
	var sides []side
	for _, p := range from {
		sides = append(sides, side{p, none, none})
	}
	var l []int
	for _, x := range m.reach(sides) {
		l = append(l, x[0])
	}
	slices.Sort(l)
	return l
}

// pairs is how many pairs there are.
func (m model) pairs() int {
	var from []side
	for _, p := range m.live {
		from = append(from, side{p, p, none})
	}
	return len(m.reach(from))
}

// heavy tells whether a position leads to itself along an arrow of several ways.
func (m model) heavy(p int) bool {
	for _, q := range m.behind[p] {
		for r, ways := range m.Follow(q) {
			if ways > 1 && slices.Contains(m.behind[q], r) && (r == p || slices.Contains(m.behind[r], p)) && slices.Contains(m.behind[p], p) {
				return true
			}
		}
	}
	return false
}

// splits tells whether a position leads to itself in two runs.
func (m model) splits(p int) bool {
	both := side{p, p, none}
	return m.heavy(p) || slices.ContainsFunc(m.reach([]side{both}), func(x side) bool {
		return x[0] != x[1] && slices.Contains(m.reach([]side{x}), both)
	})
}

// fed is how many triples there are, and what feeds what.
func (m model) fed() (int, [][2]int) {
	n, l := 0, [][2]int(nil)
	for _, p := range m.live {
		for _, q := range m.live {
			ring := slices.Contains(m.behind[p], p) && slices.Contains(m.behind[q], q)
			if p == q || !ring || !slices.Contains(m.behind[p], q) || bytes.Meet(m.Set(p), m.Set(q)) == (api.Set{}) {
				continue
			}
			all := m.reach([]side{{p, p, q}})
			n += len(all)
			if slices.Contains(all, side{p, q, q}) {
				l = append(l, [2]int{p, q})
			}
		}
	}
	return n, l
}

// degree is the most steps that a way may make from what feeds to what is fed. It
// ends as none may be made ever more often.
func (m model) degree(feeds [][2]int) int {
	steps := map[int]int{}
	for more := true; more; {
		more = false
		step := func(q, n int) {
			if n > steps[q] {
				steps[q], more = n, true
			}
		}
		for _, x := range feeds {
			step(x[1], steps[x[0]]+1)
		}
		for _, p := range m.live {
			for _, q := range m.behind[p] {
				step(q, steps[p])
			}
		}
	}
	most := 0
	for _, n := range steps {
		most = max(most, n)
	}
	return most
}

// vectors is how many vectors there are, and their greatest sum.
func (m model) vectors() (int, int) {
	var list [][]int
	most := 0
	words := []string{""}
	for i := 0; i < len(words); i++ {
		for k := range len(alphabet) {
			w := words[i] + alphabet[k:k+1]
			v := m.Vector(w)
			if nat.Sum(v) == 0 || slices.ContainsFunc(list, func(x []int) bool { return slices.Equal(x, v) }) {
				continue
			}
			most = max(most, nat.Sum(v))
			list, words = append(list, v), append(words, w)
		}
	}
	return len(list), most
}

// A known is what there is to tell of a pattern, by the model.
type known struct {
	*auto.Auto
	all  Record // by any budget that does, without the family
	need int
}

// knownOf is what there is to tell of an automaton.
func knownOf(a *auto.Auto) known {
	m := modelOf(a)
	r := Record{Places: a.Places(), Live: len(m.live), Pairs: m.pairs()}
	if slices.ContainsFunc(m.live, m.splits) {
		r.Kind = 2
		return known{a, r, r.Pairs}
	}
	var feeds [][2]int
	r.Triples, feeds = m.fed()
	if len(feeds) > 0 {
		r.Kind, r.Degree = 1, m.degree(feeds)
		return known{a, r, max(r.Pairs, r.Triples)}
	}
	r.Vectors, r.Most = m.vectors()
	return known{a, r, max(r.Pairs, r.Triples, r.Vectors)}
}

// by is the verdict by a budget.
func (x known) by(budget int) Record {
	r := x.all
	switch {
	case budget < x.need:
		return Record{Kind: 3, Places: r.Places, Live: r.Live, Pairs: r.Pairs, Triples: r.Triples}
	case r.Kind == 0:
		return r
	}
	f, _ := pump.Find(x.Auto)
	z, e := stop.Attack(x.Auto, f, budget)
	r.X, r.Y, r.Z, r.Stops = f.X, f.Y, z, e == api.OK
	return r
}

// budgets are those about which something changes, and some others. A great one is
// asked for where there are few sets of positions alone.
func (x known) budgets() []int {
	r := x.all
	l := []int{0, 1, r.Pairs - 1, r.Pairs, r.Triples - 1, r.Triples, x.need - 1, x.need, x.need + 1, 2*x.need + 3, 5000}
	if r.Live < 8 {
		l = append(l, math.MaxInt)
	}
	slices.Sort(l)
	return slices.DeleteFunc(slices.Compact(l), func(n int) bool { return n < 0 })
}

// A count is how many verdicts of each sort there were.
type count struct {
	kinds                [4]int
	stops, goes          int // with a tail, and without one
	byTriples, byVectors int // the greatest of what is needed
	degree               int
}

// hold holds all verdicts of a pattern against the model, and what they promise.
func hold(t *testing.T, p string, mode int, n *count) {
	t.Helper()
	a, _, e := auto.Parse(p, mode)
	if e != api.OK {
		t.Fatalf("Parse(%q, %d): %d", p, mode, e)
	}
	x := knownOf(a)
	for _, budget := range x.budgets() {
		want := x.by(budget)
		if r := Analyse(p, mode, budget); r != want {
			t.Fatalf("Analyse(%q, %d, %d): %v, not %v", p, mode, budget, r, want)
		}
		n.kinds[want.Kind]++
	}
	if need, ok := Need(p, mode); need != x.need || !ok {
		t.Fatalf("Need(%q, %d): %d, %v, not %d", p, mode, need, ok, x.need)
	}
	r := Analyse(p, mode, 5000)
	n.add(x, r)
	holdGrowth(t, p, x, r)
}

// add counts a verdict.
func (n *count) add(x known, r Record) {
	switch {
	case r.Kind == degree.Flat && x.need > r.Pairs:
		n.byVectors++
	case r.Stops:
		n.stops++
	case r.Kind != degree.Flat:
		n.goes++
	}
	if x.need == r.Triples && r.Triples > r.Pairs {
		n.byTriples++
	}
	if r.Degree > 1 {
		n.degree++
	}
}

// holdGrowth holds that what a verdict says is so: on all short words there are no
// more hits than the bound tells, or on each word of the family no fewer than the
// floor; and that none of these is found, if it stops.
func holdGrowth(t *testing.T, p string, x known, r Record) {
	t.Helper()
	if r.Kind == degree.Flat {
		for _, w := range sample.Words("abc", 3) {
			if x.Hits(w) > r.Most*len(w) {
				t.Fatalf("%q: %d hits on %q, by %v", p, x.Hits(w), w, r)
			}
		}
		return
	}
	for k := range 6 {
		floor := []int{k * (k + 1) / 2, 1 << k}[r.Kind-1]
		w, e := Words(r, k)
		if e != api.OK || Floor(r, k) != floor || x.Hits(w) < floor {
			t.Fatalf("%q: %d hits on %q, %d, not %d: %d, by %v", p, x.Hits(w), w, e, floor, Floor(r, k), r)
		}
		if r.Stops && member.Means(x.Auto, w) {
			t.Fatalf("%q: %q is meant, by %v", p, w, r)
		}
	}
}

// enough tells whether there were enough verdicts of each sort.
func (n *count) enough(least int) bool {
	return min(slices.Min(n.kinds[:]), n.stops, n.goes, n.byTriples, n.byVectors, n.degree) >= least
}

// All patterns of a few parts are told of as the model tells, by all modes.
func TestAllShortPatterns(t *testing.T) {
	n := &count{}
	for p := range sample.Texts([]string{"a*", "[ab]*", "b?", "(a", "|a", ")*", "{1,2}", "[^a]", ".*", emptySet}, 4) {
		for mode := core.Full; mode <= core.Search; mode++ {
			if c, _, e := core.Parse(p, mode); e == api.OK && len(core.Sets(c)) <= 4 {
				hold(t, p, mode, n)
			}
		}
	}
	if !n.enough(100) {
		t.Errorf("too few of a sort: %+v", *n)
	}
}

// pattern is a core, as a pattern.
func pattern(c *core.Node) string {
	switch c.Kind {
	case core.Set:
		return printer.Set(c.Set)
	case core.Cat:
		return "(?:" + pattern(c.A) + ")(?:" + pattern(c.B) + ")"
	case core.Alt:
		return "(?:" + pattern(c.A) + "|" + pattern(c.B) + ")"
	case core.Star:
		return "(?:" + pattern(c.A) + ")*"
	}
	return ""
}

// row is a core, and Stars behind it.
func row(seed, size int) *core.Node {
	c := sample.Core(seed, 3)
	for i := range 1 + seed%3 {
		star := &core.Node{Kind: core.Star, A: sample.Core(3*seed+i, size)}
		c = &core.Node{Kind: core.Cat, A: c, B: star}
	}
	return c
}

func TestPatternsAtRandom(t *testing.T) {
	n := &count{}
	for seed := range 3000 {
		c := row(seed, 2+seed%4)
		if k := len(core.Sets(c)); k > 2 && k <= 7 {
			hold(t, pattern(c), seed%4/3*core.Search, n)
		}
	}
	if !n.enough(20) {
		t.Errorf("too few of a sort: %+v", *n)
	}
}

// The matcher, held against a verdict that stops, finds nothing, and has all hits.
func TestMatcher(t *testing.T) {
	for _, p := range []string{"(a*)*b", "a*a*", "(a|aa)*c", "x*(ab|a|b)*y", "a*b?a*", "(a|b)*a(a|b)*"} {
		for mode := core.Full; mode <= core.Search; mode++ {
			r := Analyse(p, mode, 5000)
			a, _, _ := auto.Parse(p, mode)
			for k := range 6 {
				w, e := Words(r, k)
				found, _, _ := match.Run(p, mode, w, 100000)
				all := a.Hits(w)
				if e != api.OK || found.Stopped || found.Hits > all || r.Stops && (found.Found || found.Hits != all) {
					t.Errorf("%s, %d, %v on %q: %v, of %d hits", p, mode, r, w, found, all)
				}
			}
		}
	}
}
