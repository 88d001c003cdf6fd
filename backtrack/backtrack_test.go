package backtrack

import (
	"slices"
	"strings"
	"testing"

	"caltrop/api"
	"caltrop/bytes"
	"caltrop/core"
)

// of is a Set of some bytes.
func of(l ...byte) *core.Node {
	return &core.Node{Kind: core.Set, Set: bytes.Of(l...)}
}

func two(kind int, a, b *core.Node) *core.Node {
	return &core.Node{Kind: kind, A: a, B: b}
}

func star(c *core.Node) *core.Node {
	return &core.Node{Kind: core.Star, A: c}
}

// twins is a core in which one node stands at as many places as 2 to the n.
func twins(kind, n int, c *core.Node) *core.Node {
	for range n {
		c = two(kind, c, c)
	}
	return c
}

// all is what comes of all ways.
func all(t *testing.T, c *core.Node, w string, limit int) Result {
	t.Helper()
	m := matcher(t, c, w, limit)
	m.Rest()
	return m.Result
}

// hold tells of a result that isn't the one that is asked for.
func hold(t *testing.T, what string, got, want Result) {
	t.Helper()
	if got != want {
		t.Errorf("%s: %v, not %v", what, got, want)
	}
}

func TestStack(t *testing.T) {
	var s stack[string]
	for _, x := range []string{"a", "b", "c"} {
		s.push(x)
	}
	if s.top() != "c" || s.pop() != "c" || s.pop() != "b" || len(s) != 1 {
		t.Errorf("%v", s)
	}
	s.push("d")
	if !slices.Equal(s, stack[string]{"a", "d"}) {
		t.Errorf("%v", s)
	}
}

func TestCoresThatArentRight(t *testing.T) {
	round := two(core.Cat, of('a'), nil)
	round.B = round
	loop := star(nil)
	loop.A = star(loop)
	for i, c := range []*core.Node{
		nil, {Kind: -1}, {Kind: core.Star + 1}, star(nil), two(core.Cat, of('a'), nil), two(core.Alt, nil, of('a')),
		star(two(core.Alt, of('a'), &core.Node{Kind: 9})), round, loop, two(core.Cat, &core.Node{}, star(round)),
	} {
		if m, e := New(c, "a", 9); m != nil || e != api.ErrArg {
			t.Errorf("New of %d: %v, %d", i, m, e)
		}
	}
	// what a kind hasn't isn't looked at
	c := two(core.Cat, of('a'), &core.Node{Kind: core.Star, A: of('b'), B: round})
	c.A.A, c.A.B = round, &core.Node{Kind: -1}
	hold(t, "more than there is", all(t, c, "abb", 9), Result{true, false, 3, 1, 3})
}

// A node in several places has positions of its own in each.
func TestSharedNodes(t *testing.T) {
	a := of('a')
	m := matcher(t, two(core.Alt, two(core.Cat, a, a), two(core.Cat, star(a), a)), "aa", 99)
	for _, way := range [][]int{{0, 1}, {2, 3}} {
		if !m.Next() || !slices.Equal(m.Path(), way) {
			t.Errorf("by %v, not %v", m.Path(), way)
		}
	}
	if m.Next() || m.Hits != 6 {
		t.Errorf("%v", m.Result)
	}
}

// What is answered is new.
func TestPathsAreNew(t *testing.T) {
	m := matcher(t, two(core.Cat, star(of('a')), star(of('a'))), "aa", 99)
	m.Next()
	one := m.Path()
	m.Path()[1] = 9
	m.Next()
	if !slices.Equal(one, []int{0, 0}) || !slices.Equal(m.Path(), []int{0, 1}) {
		t.Errorf("%v, %v", one, m.Path())
	}
}

// Ways in which nothing is read are more than can be gone one by one, and no hit
// counts against the limit.
func TestManyWaysToBeNothing(t *testing.T) {
	a, b := of('a'), of('b')
	choice := two(core.Alt, &core.Node{}, &core.Node{})
	maybe := two(core.Alt, a, &core.Node{})
	for _, x := range []struct {
		what  string
		c     *core.Node
		word  string
		limit int
		want  Result
	}{
		{"one way", twins(core.Cat, 900, &core.Node{}), "", 0, Result{Found: true, Ways: 1}},
		{"2^40 ways", twins(core.Alt, 40, &core.Node{}), "", 0, Result{Found: true, Ways: 1 << 40}},
		{"too many ways", twins(core.Alt, 900, &core.Node{}), "", 0, Result{Found: true, Ways: api.Most}},
		{"no way", twins(core.Alt, 900, &core.Node{}), "a", 9, Result{}},
		{"none ahead of b", two(core.Cat, twins(core.Alt, 900, maybe), b), "c", 9, Result{}},
		{"none ahead of two", two(core.Cat, twins(core.Cat, 5, choice), two(core.Cat, twins(core.Cat, 5, choice), b)), "c", 9, Result{}},
		{"many ahead of b", two(core.Cat, twins(core.Alt, 40, maybe), b), "b", 1 << 50, Result{true, false, 1 << 40, 1 << 40, 1}},
		{"many ahead of b, up to a limit", two(core.Cat, twins(core.Alt, 40, maybe), b), "b", 12345, Result{true, true, 12345, 12345, 1}},
		{"many ahead of b and c", two(core.Cat, twins(core.Alt, 40, &core.Node{}), two(core.Cat, b, of('c'))), "bc", 12345, Result{true, true, 12345, 6172, 2}},
		{"many ahead of b, up to none", two(core.Cat, twins(core.Alt, 40, maybe), b), "b", 0, Result{Stopped: true}},
		{"many ahead of what isn't found", two(core.Cat, twins(core.Alt, 40, maybe), two(core.Cat, b, a)), "bc", 1 << 50, Result{Hits: 1 << 40, Reach: 1}},
		{"many within many", two(core.Cat, twins(core.Alt, 20, &core.Node{}), two(core.Cat, b, two(core.Cat, twins(core.Alt, 20, &core.Node{}), b))), "bb", 1 << 50, Result{true, false, 1<<20 + 1<<40, 1 << 40, 2}},
		{"as many hits as a number tells", two(core.Cat, twins(core.Alt, 900, &core.Node{}), b), "b", api.Most, Result{true, false, api.Most, api.Most, 1}},
		{"places without an end", twins(core.Alt, 900, a), "a", 100, Result{true, true, 100, 100, 1}},
		{"places in a row", twins(core.Cat, 900, a), "aaaa", 100, Result{Hits: 4, Reach: 4}},
		{"a Star of nothing", star(twins(core.Alt, 900, &core.Node{})), "", 0, Result{Found: true, Ways: 1}},
	} {
		hold(t, x.what, all(t, x.c, x.word, x.limit), x.want)
		m := matcher(t, x.c, x.word, x.limit)
		if m.Next() != x.want.Found || !x.want.Found && m.Result != x.want {
			t.Errorf("%s: the first one: %v", x.what, m.Result)
		}
	}
	// one by one they are told as often as they are there
	m := matcher(t, two(core.Cat, twins(core.Alt, 40, maybe), b), "b", 100)
	for m.Next() {
	}
	hold(t, "one by one", m.Result, Result{true, true, 100, 100, 1})
}

func TestDeepCores(t *testing.T) {
	const deep = 1 << 17
	a := of('a')
	stars, left, right := a, a, a
	for range deep {
		stars, left, right = star(stars), two(core.Cat, left, star(a)), two(core.Alt, a, right)
	}
	hold(t, "deep Alts", all(t, right, "a", deep+1), Result{true, false, deep + 1, deep + 1, 1})
	hold(t, "deep Cats", all(t, left, "a", deep), Result{true, false, 1, 1, 1})
	m := matcher(t, stars, strings.Repeat("a", 10), 10)
	m.Next()
	hold(t, "deep Stars", m.Result, Result{true, false, 10, 1, 10})
}
