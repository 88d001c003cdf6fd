package stop

import (
	"math"
	"slices"
	"testing"

	"caltrop/api"
	"caltrop/auto"
	"caltrop/bytes"
	"caltrop/core"
	"caltrop/match"
	"caltrop/member"
	"caltrop/pump"
	"caltrop/sample"
)

// emptySet is a set that has no byte.
const emptySet = "[^\\x00-\\xff]"

// alphabet is one byte of each sort, rising: 0 stands for those that no pattern
// names, as the least one of them.
const alphabet = "\x00abc"

// A model tells sets of positions as bits, by the weights alone.
type model struct {
	*auto.Auto
	bytes   string // those that are tried, rising
	last    uint
	follows []uint
}

// bits is the places of a list with a number above 0.
func bits(l []int) uint {
	n := uint(0)
	for p, x := range l {
		if x > 0 {
			n |= 1 << p
		}
	}
	return n
}

// modelOf is the model of an automaton.
func modelOf(a *auto.Auto) model {
	m := model{a, alphabet, bits(a.Last()), nil}
	for p := range a.Places() {
		m.follows = append(m.follows, bits(a.Follow(p)))
	}
	return m
}

// list is the positions of a set, rising.
func (m model) list(set uint) []int {
	var l []int
	for p := range m.Places() {
		if set>>p&1 > 0 {
			l = append(l, p)
		}
	}
	return l
}

// reads is those of a set that read a byte.
func (m model) reads(set uint, b byte) uint {
	n := uint(0)
	for _, p := range m.list(set) {
		if bytes.Has(m.Set(p), b) {
			n |= 1 << p
		}
	}
	return n
}

// on is what is alive behind a word, from a set on.
func (m model) on(set uint, w string) uint {
	for i := range len(w) {
		next := uint(0)
		for _, p := range m.list(set) {
			next |= m.follows[p]
		}
		set = m.reads(next, w[i])
	}
	return set
}

// alive is what is alive behind a word that isn't empty.
func (m model) alive(w string) uint {
	return m.on(m.reads(bits(m.First()), w[0]), w[1:])
}

// A set is met by a word.
type met struct {
	set  uint
	word string
}

// sets are all that are met, in order.
func (m model) sets(from uint) []met {
	l := []met{{from, ""}}
	for i := 0; i < len(l); i++ {
		for k := range len(m.bytes) {
			b := m.bytes[k : k+1]
			next := m.on(l[i].set, b)
			if !slices.ContainsFunc(l, func(x met) bool { return x.set == next }) {
				l = append(l, met{next, l[i].word + b})
			}
		}
	}
	return l
}

// find is the first tail of some sets, that were met in order, with a budget.
func (m model) find(l []met, budget int) (string, api.Errno) {
	for i, x := range l {
		if i == budget {
			return "", api.ErrFull
		}
		if x.set&m.last == 0 {
			return x.word, api.OK
		}
	}
	return "", api.ErrNone
}

// budgets are those about what is needed, and some others.
func (m model) budgets(l []met) []int {
	need := len(l)
	if i := slices.IndexFunc(l, func(x met) bool { return x.set&m.last == 0 }); i >= 0 {
		need = i + 1
	}
	return []int{0, 1, need - 1, need, need + 1, len(l), math.MaxInt}
}

// family is a family's positions: the sets behind k pumps come again, some time.
func (m model) family(f pump.Family) uint {
	all, set := uint(0), m.alive(f.X)
	for seen := map[uint]int{}; seen[set] == 0; set = m.on(set, f.Y) {
		seen[set] = 1
		all |= set
	}
	return all
}

// automaton is that of a core.
func automaton(t *testing.T, c *core.Node) *auto.Auto {
	t.Helper()
	a, e := auto.New(c)
	if e != api.OK {
		t.Fatalf("New of %s: %d", core.Text(c), e)
	}
	return a
}

// holdFind holds the first tails that stop some positions, with several budgets, and
// tells how long the tail is; -1 without one.
func holdFind(t *testing.T, what string, m model, from []int) int {
	t.Helper()
	a := m.Auto
	set := uint(0)
	for _, p := range from {
		set |= 1 << p
	}
	l := m.sets(set)
	for _, budget := range m.budgets(l) {
		want, e := m.find(l, budget)
		if w, got := Find(a, from, budget); w != want || got != e {
			t.Fatalf("Find of %s, %v, %d: %q, %d, not %q, %d", what, from, budget, w, got, want, e)
		}
	}
	w, e := m.find(l, len(l))
	if e != api.OK {
		return -1
	}
	if !Stops(a, from, w) {
		t.Fatalf("Stops of %s, %v, %q", what, from, w)
	}
	return len(w)
}

// holdStops holds which words stop some positions.
func holdStops(t *testing.T, what string, a *auto.Auto, from []int, words []string) {
	t.Helper()
	m := modelOf(a)
	set := uint(0)
	for _, p := range from {
		set |= 1 << p
	}
	for _, w := range words {
		if want := m.on(set, w)&m.last == 0; Stops(a, from, w) != want {
			t.Fatalf("Stops of %s, %v, %q: %v", what, from, w, !want)
		}
	}
}

// lengths counts tails by their lengths; -1 where there is none.
type lengths map[int]int

// holdSets holds the tails of all sets of an automaton's positions, or of some.
func holdSets(t *testing.T, c *core.Node, step uint, n lengths, words []string) {
	t.Helper()
	a := automaton(t, c)
	m := modelOf(a)
	for set := uint(0); set < 1<<a.Places(); set += step {
		n[holdFind(t, core.Text(c), m, m.list(set))]++
		holdStops(t, core.Text(c), a, m.list(set), words)
	}
}

// All patterns of a few parts, and all sets of their positions, have the tails that
// the model tells, by all modes.
func TestAllShortPatterns(t *testing.T) {
	n := lengths{}
	words := sample.Words(alphabet, 2)
	count := sample.Cores([]string{"a", "[ab]*", "[^a]", "(a", "|b", ")*", "(b|", ")", "+", emptySet}, 3, func(c *core.Node) {
		if len(core.Sets(c)) <= 5 {
			holdSets(t, c, 1, n, words)
		}
	})
	if min(count-1000, n[-1]-1000, n[0]-1000, n[1]-1000, n[2]-10) < 0 {
		t.Errorf("too few of a sort: %d patterns, tails by their lengths: %v", count, n)
	}
}

// star is the Star of a core.
func star(c *core.Node) *core.Node {
	return &core.Node{Kind: core.Star, A: c}
}

// both is a node of two.
func both(kind int, a, b *core.Node) *core.Node {
	return &core.Node{Kind: kind, A: a, B: b}
}

// wide is a core of which most sets have all bytes but a and b, too: so it is these
// that stop it, mostly.
func wide(c *core.Node) *core.Node {
	if c == nil {
		return nil
	}
	w := *c
	w.A, w.B = wide(c.A), wide(c.B)
	if c.Set != bytes.Of('b') {
		w.Set = bytes.Union(c.Set, bytes.Not(bytes.Of('a', 'b')))
	}
	return &w
}

// row is some cores of which two are repeated: every other one is wide.
func row(seed, size int) *core.Node {
	first := star(sample.Core(3*seed, size))
	c := both(core.Cat, sample.Core(3*seed+1, size), star(sample.Core(3*seed+2, size)))
	if seed%2 == 0 {
		return both(core.Cat, first, c)
	}
	return wide(both(core.Alt, star(both(core.Cat, first, c)), c))
}

func TestCoresAtRandom(t *testing.T) {
	n := lengths{}
	words := sample.Words(alphabet, 2)
	held := 0
	for seed := range 3000 {
		c := row(seed, 3)
		if k := len(core.Sets(c)); k > 1 && k <= 7 {
			held++
			holdSets(t, c, 5, n, words)
		}
	}
	if min(held-500, n[-1]-1000, n[0]-1000, n[1]-1000, n[2]-300, n[3]+n[4]-5) < 0 {
		t.Errorf("too few of a sort: %d held, tails by their lengths: %v", held, n)
	}
}

// A count is of how many families there were a tail, and of how many none, and how
// many have positions behind some pumps alone.
type count struct {
	some, none, more int
}

// holdOf holds the positions of a family, and tells whether some are alive behind
// some pumps alone.
func holdOf(t *testing.T, c *core.Node, m model, f pump.Family) bool {
	t.Helper()
	want := m.list(m.family(f))
	if l := Of(m.Auto, f); !slices.Equal(l, want) {
		t.Fatalf("Of of %s, %v: %v, not %v", core.Text(c), f, l, want)
	}
	return !slices.Equal(want, member.Alive(m.Auto, f.X))
}

// holdFamily holds the positions and the attack of a family.
func holdFamily(t *testing.T, c *core.Node, n *count) {
	t.Helper()
	a := automaton(t, c)
	f, e := pump.Find(a)
	if e != api.OK {
		return
	}
	m := modelOf(a)
	if holdOf(t, c, m, f) {
		n.more++
	}
	// with twice the pump, or one in the prefix, it is a family, too
	holdOf(t, c, m, pump.Family{Kind: f.Kind, X: f.X, Y: f.Y + f.Y, P: f.P, Q: f.Q})
	holdOf(t, c, m, pump.Family{Kind: f.Kind, X: f.X + f.Y, Y: f.Y, P: f.P, Q: f.Q})
	l := m.sets(m.family(f))
	for _, budget := range m.budgets(l) {
		want, e := m.find(l, budget)
		if w, got := Attack(a, f, budget); w != want || got != e {
			t.Fatalf("Attack of %s, %v, %d: %q, %d, not %q, %d", core.Text(c), f, budget, w, got, want, e)
		}
	}
	z, e := Attack(a, f, len(l))
	if e == api.OK {
		n.some++
		holdAttack(t, c, a, f, z)
	} else {
		n.none++
	}
	holdOthers(t, c, a, f, z, e)
}

// holdAttack holds that with a tail no word of a family is meant, and that the
// matcher has all its hits then.
func holdAttack(t *testing.T, c *core.Node, a *auto.Auto, f pump.Family, z string) {
	t.Helper()
	for k := range 8 {
		w, e := Word(f, z, k)
		if e != api.OK || member.Means(a, w) {
			t.Fatalf("%s: %q, of %v, %d pumps and %q, is meant: %d", core.Text(c), w, f, k, z, e)
		}
		r := match.First(c, w, 2000)
		hits := a.Hits(w)
		if r.Found || r.Stopped != (hits > 2000) || !r.Stopped && r.Hits != hits || hits < pump.Floor(f, k) {
			t.Fatalf("%s: %v on %q, of %d hits", core.Text(c), r, w, hits)
		}
	}
}

// holdOthers holds that with each short word that isn't a tail, as all that are
// shorter than the first one, some word of a family is meant.
func holdOthers(t *testing.T, c *core.Node, a *auto.Auto, f pump.Family, z string, e api.Errno) {
	t.Helper()
	for _, w := range sample.Words(alphabet, 2) {
		stops := true
		for k := range 16 { // more than there are positions
			word, _ := Word(f, w, k)
			stops = stops && !member.Means(a, word)
		}
		if Stops(a, Of(a, f), w) != stops || stops && (e != api.OK || len(w) < len(z)) {
			t.Fatalf("%s: %q stops %v: %v; the attack: %q, %d", core.Text(c), w, f, stops, z, e)
		}
	}
}

func TestAllFamilies(t *testing.T) {
	n := &count{}
	sample.Cores([]string{"a*", "[ab]*", "b?", "(a", "|a", ")*", "{1,2}", "[^a]", "|"}, 4, func(c *core.Node) {
		if len(core.Sets(c)) <= 5 {
			holdFamily(t, c, n)
		}
	})
	if min(n.some-300, n.none-300, n.more-100) < 0 {
		t.Errorf("too few of a sort: %v", *n)
	}
}

func TestFamiliesAtRandom(t *testing.T) {
	n := &count{}
	for seed := range 6000 {
		c := row(seed, 3+seed%2)
		if k := len(core.Sets(c)); k > 2 && k <= 9 {
			holdFamily(t, c, n)
		}
	}
	if min(n.some-500, n.none-50, n.more-100) < 0 {
		t.Errorf("too few of a sort: %v", *n)
	}
}
