package square

import (
	"math"
	"slices"
	"strings"
	"testing"

	"caltrop/api"
	"caltrop/auto"
	"caltrop/bytes"
	"caltrop/core"
)

// empty is a set that has no byte.
const empty = "[^\\x00-\\xff]"

// squareOf is what is known of a pattern's pairs.
func squareOf(t *testing.T, p string, mode int) *Square {
	t.Helper()
	a, _, e := auto.Parse(p, mode)
	if e != api.OK {
		t.Fatalf("Parse(%.60q): %d", p, e)
	}
	s, e := New(a)
	if s == nil || e != api.OK {
		t.Fatalf("New of %.60q: %v, %d", p, s, e)
	}
	return s
}

func TestSquares(t *testing.T) {
	for _, x := range []struct {
		pattern string
		mode    int
		live    []int
		pairs   int
		split   []int
	}{
		{"", core.Full, nil, 0, nil},
		{empty, core.Full, nil, 0, nil},
		{"a", core.Full, []int{0}, 1, nil},
		{"a*", core.Full, []int{0}, 1, nil},
		{"(a*)*", core.Full, []int{0}, 1, []int{0}},
		{"(a*)*b", core.Full, []int{0, 1}, 2, []int{0}},
		{"b(a*)*", core.Full, []int{0, 1}, 2, []int{1}},
		{"(a+)+", core.Full, []int{0, 1, 2, 3}, 10, []int{2, 3}}, // a a* (a a*)*
		{"a*a*", core.Full, []int{0, 1}, 4, nil},
		{"[ab]*a*", core.Full, []int{0, 1}, 4, nil},
		{"a*b*", core.Full, []int{0, 1}, 2, nil},
		{"(a|a)*", core.Full, []int{0, 1}, 4, []int{0, 1}},
		{"(a|b)*", core.Full, []int{0, 1}, 2, nil},
		{"(a|[ab])*", core.Full, []int{0, 1}, 4, []int{0, 1}},
		{"(a|aa)*", core.Full, []int{0, 1, 2}, 9, []int{0, 1, 2}},
		{"(ab|aba?)*", core.Full, []int{0, 1, 2, 3, 4}, 13, []int{0, 1, 2, 3, 4}},
		{"a|" + empty + "(a|a)*", core.Full, []int{0}, 1, nil}, // what can't be reached doesn't split
		{"(a|a" + empty + "|b)*", core.Full, []int{0, 1, 3}, 5, nil},
		{"(ab|ac)*", core.Full, []int{0, 1, 2, 3}, 6, nil},               // no byte leads two runs on to b and c
		{"(ab|ab)*", core.Full, []int{0, 1, 2, 3}, 8, []int{0, 1, 2, 3}}, // but to both of b
		{"(a|a)b", core.Full, []int{0, 1, 2}, 3, nil},                    // no ring
		{"c(x(a|)*)*", core.Full, []int{0, 1, 2}, 3, nil},
		{"a((b|)c)*", core.Full, []int{0, 1, 2}, 3, nil},
		{"a(()|())(b*)", core.Full, []int{0, 1}, 2, nil}, // in two ways, but on no ring
		{"(a(()|())b)*", core.Full, []int{0, 1}, 2, []int{0, 1}},
		{"(a(()|())b|c)*", core.Full, []int{0, 1, 2}, 3, []int{0, 1, 2}}, // also of one that is on the ring elsewhere
		{"a", core.Search, []int{0, 1, 2}, 9, nil},
		{"a*", core.Prefix, []int{0, 1}, 4, nil},
	} {
		s := squareOf(t, x.pattern, x.mode)
		if l := s.Live(); !slices.Equal(l, x.live) {
			t.Errorf("%s: Live: %v, not %v", x.pattern, l, x.live)
		}
		if s.Pairs() != x.pairs {
			t.Errorf("%s: Pairs: %d, not %d", x.pattern, s.Pairs(), x.pairs)
		}
		hold(t, x.pattern, s, x.split)
	}
}

// star is the Star of a core.
func star(c *core.Node) *core.Node {
	return &core.Node{Kind: core.Star, A: c}
}

// of is the Set of some bytes.
func of(l ...byte) *core.Node {
	return &core.Node{Kind: core.Set, Set: bytes.Of(l...)}
}

// both is a node of two.
func both(kind int, a, b *core.Node) *core.Node {
	return &core.Node{Kind: kind, A: a, B: b}
}

func TestExamples(t *testing.T) {
	s := check(t, star(star(of('a'))))
	if w, ok := s.Loop(0); w != "a" || !ok {
		t.Errorf("Loop of {{a}}: %q, %v", w, ok)
	}
	if s := check(t, both(core.Cat, star(both(core.Alt, of('a'), of('b'))), star(of('a')))); len(s.All()) != 0 {
		t.Errorf("{(a|b)}{a} splits: %v", s.All())
	}
}

// Loops are no longer than they have to be.
func TestShortLoops(t *testing.T) {
	for _, x := range []struct {
		pattern string
		p       int
		length  int
	}{
		{"(a*)*", 0, 1},
		{"(a|a)*", 1, 2},
		{"(a|aa)*", 0, 3}, // a a a, or aa a
		{"(a|aa)*", 1, 4},
		{"(abc|abc)*", 2, 6},
		{"((a*)*b)*", 0, 1},
		{"((a*)*b)*", 1, 3}, // one goes on in two ways from a to a alone
		{"(a{5}|a{7})*", 0, 17},
		{"((a{9})*)*", 4, 9},
	} {
		w, ok := squareOf(t, x.pattern, core.Full).Loop(x.p)
		if !ok || len(w) != x.length {
			t.Errorf("%s: Loop(%d): %q, %v", x.pattern, x.p, w, ok)
		}
	}
}

func TestErrors(t *testing.T) {
	if s, e := New(nil); s != nil || e != api.ErrArg {
		t.Errorf("New(nil): %v, %d", s, e)
	}
	for _, x := range []struct {
		pattern string
		mode    int
		live    int // above 60: too many
	}{
		{"a{60}", core.Full, 60},
		{"a{61}", core.Full, 61},
		{"a{600}", core.Full, 600},
		{"a{60}", core.Prefix, 61},
		{"a{58}", core.Search, 60},
		{"a{59}", core.Search, 61},
		{"(?:a?){60}", core.Full, 60},
		{"(?:a?){61}", core.Full, 61},
		{"a{59}" + empty + "|a", core.Full, 60}, // what can't be reached doesn't count
		{"a{59}" + empty + "b{500}|a", core.Full, 60},
		{"a{60}" + empty + "b{500}|a", core.Full, 61},
		{empty + "b{599}", core.Full, 0},
	} {
		a, _, e := auto.Parse(x.pattern, x.mode)
		if e != api.OK {
			t.Fatalf("Parse(%s): %d", x.pattern, e)
		}
		s, e := New(a)
		if x.live > 60 {
			if s != nil || e != api.ErrLong {
				t.Errorf("New of %s: %v, %d", x.pattern, s, e)
			}
		} else if s == nil || e != api.OK || len(s.Live()) != x.live {
			t.Errorf("New of %s: %d", x.pattern, e)
		}
	}
}

func TestNilSquare(t *testing.T) {
	var s *Square
	p, ok := s.First()
	w, is := s.Loop(0)
	if s.Live() != nil || s.Pairs() != 0 || s.Splits(0) || s.All() != nil || p != 0 || ok || w != "" || is {
		t.Errorf("something of nil")
	}
}

// Of what is no position nothing is told.
func TestNotThere(t *testing.T) {
	s := squareOf(t, "(a*)*b", core.Full)
	for _, p := range []int{-1, 1, 2, 600, math.MaxInt, math.MinInt} {
		if w, ok := s.Loop(p); s.Splits(p) || w != "" || ok {
			t.Errorf("%d: %v, %q, %v", p, s.Splits(p), w, ok)
		}
	}
}

// One that wasn't made by New mustn't panic, nor one of what wasn't made by auto.
func TestNotMade(t *testing.T) {
	made := squareOf(t, "(a*)*(b|b)*", core.Full)
	other := squareOf(t, "(a*)*", core.Full)
	other.Auto = nil
	changed, _, _ := auto.Parse("a", core.Full)
	changed.Weights = made.Weights
	of, e := New(changed)
	if e != api.OK {
		t.Fatalf("New of what was changed: %d", e)
	}
	bare, e := New(&auto.Auto{})
	if e != api.OK {
		t.Fatalf("New of what wasn't made: %d", e)
	}
	for _, s := range []*Square{{}, {Auto: made.Auto}, other, of, bare} {
		s.Live()
		s.Pairs()
		s.Splits(0)
		s.All()
		s.First()
		s.Loop(0)
		s.Loop(1)
	}
}

// The automaton's calls are those of the square, but for First.
func TestAutomaton(t *testing.T) {
	s := squareOf(t, "(a*)*b", core.Full)
	if s.Hits("aab") != 5 || s.Places() != 2 || !slices.Equal(s.Auto.First(), []int{1, 1}) || !slices.Equal(s.Follow(0), []int{2, 1}) {
		t.Errorf("another automaton")
	}
}

// What is answered is new, and is the same each time.
func TestAnswersAreNew(t *testing.T) {
	s := squareOf(t, "(a|aa|b)*", core.Full)
	first, _ := s.Loop(1)
	for range 3 {
		live, all := s.Live(), s.All()
		if !slices.Equal(live, []int{0, 1, 2, 3}) || !slices.Equal(all, live) {
			t.Errorf("Live: %v; All: %v", live, all)
		}
		for _, l := range [][]int{live, all} {
			for i := range l[:cap(l)] {
				l[:cap(l)][i] = 99
			}
		}
		if w, _ := s.Loop(1); w != first || !s.Splits(1) || s.Splits(99) {
			t.Errorf("Loop: %q, not %q", w, first)
		}
		if w, _ := squareOf(t, "(a|aa|b)*", core.Full).Loop(1); w != first {
			t.Errorf("Loop of another one: %q, not %q", w, first)
		}
	}
}

// The greatest squares are done in time, and their loops are as they have to be.
func TestGreat(t *testing.T) {
	for _, x := range []struct {
		pattern string
		live    int
		split   int
		pairs   int
	}{
		{"(" + strings.Repeat("a|", 59) + "a)*", 60, 60, 3600},
		{strings.Repeat("a*", 60), 60, 0, 3600},
		{"((a?){30})*(b|b){15}", 60, 30, 30*30 + 15*4},
		{"(a{29}|a{31})*", 60, 60, 3600},
		{"(a{7}|a{11}|a{13}|a{29})*", 60, 60, 3600},
		{"(" + strings.Repeat("ab|", 29) + "ac)*", 60, 0, 0},
		{"(a{60})*", 60, 0, 60},
		{"((a{60})*)*", 60, 60, 60},
		{"([ab]{6}a|a[ab]{13}|b[ab]{10}|a{8}b{6}a{7}b{7})*", 60, 60, 0},
	} {
		s := squareOf(t, x.pattern, core.Full)
		if len(s.Live()) != x.live || x.pairs > 0 && s.Pairs() != x.pairs {
			t.Errorf("%.40s: %d live, %d pairs", x.pattern, len(s.Live()), s.Pairs())
		}
		all := s.All()
		if x.split == 0 {
			continue
		}
		if len(all) != x.split {
			t.Errorf("%.40s: %d split", x.pattern, len(all))
		}
		words := model{s.Auto}.words()
		for _, p := range all {
			w, ok := s.Loop(p)
			if !ok {
				t.Fatalf("%.40s: Loop(%d)", x.pattern, p)
			}
			loop(t, x.pattern, s.Auto, p, words[p], w)
		}
	}
}
