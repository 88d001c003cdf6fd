// Package backtrack is what layers 12 and 13 (match, ways) have in common: a
// matcher that goes back, from one way to the next.
package backtrack

import (
	"slices"

	"caltrop/api"
	"caltrop/bytes"
	"caltrop/core"
	"caltrop/nat"
)

// Result is what came of a match so far.
type Result struct {
	Found, Stopped    bool
	Hits, Ways, Reach int
}

// Matcher tries a core on a word.
type Matcher struct {
	Result
	word   string
	limit  int   // how many hits there may be
	places int   // how many positions the core has
	path   []int // of each byte that is read the position that read it
	todo   *task
	points stack[point]
	merged bool // ways are just counted
}

// New makes a matcher, ahead of the first way.
func New(c *core.Node, w string, limit int) (*Matcher, api.Errno) {
	root := prepare(c)
	if root == nil {
		return nil, api.ErrArg
	}
	m := &Matcher{word: w, limit: max(limit, 0), places: root.places}
	m.later(&task{node: root, since: always}, 1)
	return m, api.OK
}

// Next goes on to the next way, and tells whether there is one.
func (m *Matcher) Next() bool {
	for m.back() {
		if m.onward() {
			m.Found = true
			m.Ways = nat.Add(m.Ways, 1)
			return true
		}
	}
	return false
}

// Rest goes through all ways that are left, and counts them: of those that are
// alike not each is gone.
func (m *Matcher) Rest() {
	m.merged = true
	for m.Next() {
	}
}

// Path is the positions that read the word, as it was found last. It is new.
func (m *Matcher) Path() []int {
	return slices.Clone(m.path)
}

// Places is how many positions there are.
func (m *Matcher) Places() int {
	return m.places
}

// later keeps what is to do here, so many times, till it is gone back to.
func (m *Matcher) later(t *task, times int) {
	if !m.hopeless(t) {
		m.points.push(point{todo: t, at: len(m.path), times: times})
	}
}

// back goes back to the last point, and tells whether there is one.
func (m *Matcher) back() bool {
	for !m.Stopped && len(m.points) > 0 {
		p := m.points.pop()
		if p.tried {
			p.times -= m.foreseen(p)
		}
		if p.times == 0 {
			continue
		}
		m.todo, m.path = p.todo, m.path[:p.at]
		if p.times > 1 {
			m.points.push(point{p.todo, p.at, p.times - 1, true, m.Hits, m.Ways})
		}
		return true
	}
	return false
}

// foreseen counts what comes of as many more times of a point as can be told by
// the last one, as all come to the same; and tells how many these are. What can't
// be told is where there are ways that are asked for one by one, and the time in
// which the limit is met.
func (m *Matcher) foreseen(p point) int {
	hits, ways := m.Hits-p.hits, m.Ways-p.ways
	if ways > 0 && !m.merged {
		return 0
	}
	times := p.times
	if nat.Add(m.Hits, nat.Mul(times, hits)) > m.limit {
		times = (m.limit - m.Hits) / hits
	}
	m.Hits = nat.Add(m.Hits, nat.Mul(times, hits))
	m.Ways = nat.Add(m.Ways, nat.Mul(times, ways))
	return times
}

// onward does what is to do, up to the end of one way, and tells whether the word
// is found by it.
func (m *Matcher) onward() bool {
	for !m.hopeless(m.todo) {
		if m.todo == nil {
			return true
		}
		if !m.step(m.todo) {
			return false
		}
	}
	return false
}

// hopeless tells whether no hit, and no way, can come of what is to do here by
// its first node.
func (m *Matcher) hopeless(t *task) bool {
	switch {
	case t == nil:
		return len(m.path) < len(m.word)
	case len(m.path) <= t.since:
		return true
	}
	return t.void == 0 && !m.reads(t)
}

// reads tells whether some position of a node reads the byte here: then one is
// tried.
func (m *Matcher) reads(t *task) bool {
	at := len(m.path)
	return at < len(m.word) && bytes.Has(t.first, m.word[at])
}

// step tries a node, and tells whether one may go on. Where it can't read it is
// just nothing, in some ways that aren't gone one by one: they may be more than
// can be gone, with no hit that counts against the limit.
func (m *Matcher) step(t *task) bool {
	switch {
	case !m.reads(t):
		m.later(t.next, t.void)
		return false
	case t.kind == core.Set:
		return m.hit(t)
	case t.kind == core.Cat:
		m.todo = t.left(t.right(t.next))
	case t.kind == core.Alt:
		m.either(t.left(t.next), t.right(t.next))
	case t.lazy:
		m.either(t.next, t.left(t.again(len(m.path))))
	default:
		m.either(t.left(t.again(len(m.path))), t.next)
	}
	return true
}

// either goes on with one, and keeps another one.
func (m *Matcher) either(first, second *task) {
	m.later(second, 1)
	m.todo = first
}

// hit reads a byte, if there may be one more hit.
func (m *Matcher) hit(t *task) bool {
	if nat.Add(m.Hits, 1) > m.limit {
		m.Stopped = true
		return false
	}
	m.Hits = nat.Add(m.Hits, 1)
	m.path = append(m.path, t.place)
	m.Reach = max(m.Reach, len(m.path))
	m.todo = t.next
	return true
}
