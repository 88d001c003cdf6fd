package ways

import (
	"math"
	"slices"
	"strings"
	"testing"

	"caltrop/api"
	"caltrop/auto"
	"caltrop/bytes"
	"caltrop/core"
	"caltrop/sample"
)

// parse is a pattern's core.
func parse(t *testing.T, p string, mode int) *core.Node {
	t.Helper()
	c, at, e := core.Parse(p, mode)
	if e != api.OK {
		t.Fatalf("core.Parse(%.60q, %d): %d, %d", p, mode, at, e)
	}
	return c
}

// list is the ways of a word.
func list(t *testing.T, c *core.Node, w string, most, limit int) *List {
	t.Helper()
	l, e := New(c, w, most, limit)
	if l == nil || e != api.OK {
		t.Fatalf("New of %.60s, %q: %d", core.Text(c), w, e)
	}
	return l
}

// all are the ways of a list.
func all(t *testing.T, l *List) [][]int {
	t.Helper()
	var ways [][]int
	for i := range l.Len() {
		way, ok := l.Way(i)
		if !ok {
			t.Fatalf("Way(%d) of %d is none", i, l.Len())
		}
		ways = append(ways, way)
	}
	return ways
}

// many is a limit that isn't met.
const many = 1 << 30

// P13.1

func TestWays(t *testing.T) {
	for _, x := range []struct {
		pattern string
		mode    int
		word    string
		want    [][]int
	}{
		{"", core.Full, "", [][]int{{}}},
		{"", core.Full, "a", nil},
		{"a", core.Full, "", nil},
		{"a", core.Full, "a", [][]int{{0}}},
		{"a|a", core.Full, "a", [][]int{{0}, {1}}},
		{"a|b|a", core.Full, "a", [][]int{{0}, {2}}},
		{"(a|ab)(c|bc)", core.Full, "abc", [][]int{{0, 4, 5}, {1, 2, 3}}},
		{"(ab|a)(bc|c)", core.Full, "abc", [][]int{{0, 1, 5}, {2, 3, 4}}},
		// greedy and lazy
		{"a*a*", core.Full, "aa", [][]int{{0, 0}, {0, 1}, {1, 1}}},
		{"a*?a*", core.Full, "aa", [][]int{{1, 1}, {0, 1}, {0, 0}}},
		{"a*a*?", core.Full, "aa", [][]int{{0, 0}, {0, 1}, {1, 1}}},
		{"a?a?", core.Full, "a", [][]int{{0}, {1}}},
		{"a??a?", core.Full, "a", [][]int{{1}, {0}}},
		{"a??a??", core.Full, "a", [][]int{{1}, {0}}},
		// of a Star that read nothing no other one is tried
		{"(a*)*", core.Full, "", [][]int{{}}},
		{"(a*)*", core.Full, "aa", [][]int{{0, 0}, {0, 0}}},
		{"(a|a)*", core.Full, "aa", [][]int{{0, 0}, {0, 1}, {1, 0}, {1, 1}}},
		{"(a|a)*?", core.Full, "aa", [][]int{{0, 0}, {0, 1}, {1, 0}, {1, 1}}},
		{"((a|a)?)*", core.Full, "a", [][]int{{0}, {1}}},
		// the same way as often as it is found
		{"(|)", core.Full, "", [][]int{{}, {}}},
		{"(|)(|)", core.Full, "", [][]int{{}, {}, {}, {}}},
		{"(|)a", core.Full, "a", [][]int{{0}, {0}}},
		{"(|)(a|a)", core.Full, "a", [][]int{{0}, {1}, {0}, {1}}},
		{"(a|a)(|)", core.Full, "a", [][]int{{0}, {0}, {1}, {1}}},
		{"(b|)(b|)a", core.Full, "a", [][]int{{2}}},
		{"(|b?)a", core.Full, "a", [][]int{{1}, {1}}},
		// by mode
		{"b", core.Search, "bb", [][]int{{1, 2}, {0, 1}}},
		{"b", core.Prefix, "bb", [][]int{{0, 1}}},
		{"b", core.Suffix, "bb", [][]int{{0, 1}}},
		{"[\\x80-\\xff]\\x00|.*", core.Full, "\xff\x00", [][]int{{0, 1}, {2, 2}}},
	} {
		l := list(t, parse(t, x.pattern, x.mode), x.word, mostWays, many)
		if got := all(t, l); !slices.EqualFunc(got, x.want, slices.Equal[[]int]) || !l.Whole() || l.Len() != len(x.want) {
			t.Errorf("%s of %q: %v, %v, not %v", x.pattern, x.word, got, l.Whole(), x.want)
		}
	}
}

func TestWhole(t *testing.T) {
	a70 := strings.Repeat("a", 70)
	for _, x := range []struct {
		pattern, word string
		most, limit   int
		length        int
		whole         bool
	}{
		// a way above most
		{"a|a|a", "a", 3, many, 3, true},
		{"a|a|a", "a", 4, many, 3, true},
		{"a|a|a", "a", 2, many, 2, false},
		{"a|a|a", "a", 0, many, 0, false},
		{"a|a|a", "b", 0, many, 0, true},
		{"", "", 1, many, 1, true},
		{"", "", 0, many, 0, false},
		{"(|)", "", 1, many, 1, false},
		{"(|){60}", "", mostWays, many, mostWays, false},
		{"(|){60}", "a", mostWays, many, 0, true},
		{"(|){60}b", "a", 0, 0, 0, true},
		{"(a|a)*", a70, mostWays, many, mostWays, false},
		{"(a|a){13}", a70[:13], mostWays, many, 1 << 13, true},
		// a hit above the limit, with a way behind it, or without one
		{"a|a", "a", 9, 2, 2, true},
		{"a|a", "a", 9, 1, 1, false},
		{"a|a", "a", 9, 0, 0, false},
		{"a|a", "a", 9, -1, 0, false},
		{"a|a", "a", 9, math.MinInt, 0, false},
		{"a|a", "b", 9, math.MinInt, 0, true},
		{"", "", 9, math.MinInt, 1, true},
		{"a|ab", "a", 9, 2, 1, true},
		{"a|ab", "a", 9, 1, 1, false},
		{"a|ab", "a", 1, 1, 1, false},
		{"(a|ab)(c|bc)", "abc", 9, 6, 2, true},
		{"(a|ab)(c|bc)", "abc", 9, 5, 1, false},
		{"(a|ab)(c|bc)", "abc", 9, 3, 1, false},
		{"(a|ab)(c|bc)", "abc", 9, 2, 0, false},
		{"(a|ab)(c|bc)", "abc", 1, 6, 1, false},
		{"(a|ab)(c|bc)", "abd", 0, 4, 0, true},
		{"(a|ab)(c|bc)", "abd", 0, 3, 0, false},
		{"(a*)*b", a70, 9, 100000, 0, false},
		{"(a|a)*", a70, 9, math.MaxInt, 9, false},
		{"(a|a)*", a70, 9, 100, 9, false},
		{"(a|a)*", a70, 9, 72, 2, false},
		{"(a|a)*", a70, 9, 73, 3, false},
	} {
		l := list(t, parse(t, x.pattern, core.Full), x.word, x.most, x.limit)
		if l.Len() != x.length || l.Whole() != x.whole || len(all(t, l)) != x.length {
			t.Errorf("%s of %.9q, %d, %d: %d, %v, not %d, %v", x.pattern, x.word, x.most, x.limit, l.Len(), l.Whole(), x.length, x.whole)
		}
	}
}

func TestErrors(t *testing.T) {
	loop := &core.Node{Kind: core.Star}
	loop.A = loop
	c := parse(t, "a*", core.Full)
	for _, most := range []int{-1, math.MinInt, 10001, math.MaxInt} {
		for _, limit := range []int{-1, 0, many} {
			if l, e := New(c, "a", most, limit); l != nil || e != api.ErrArg {
				t.Errorf("New of most %d: %v, %d", most, l, e)
			}
			if l, e := New(nil, "a", most, limit); l != nil || e != api.ErrArg {
				t.Errorf("New of nil, most %d: %v, %d", most, l, e)
			}
		}
	}
	for _, c := range []*core.Node{nil, loop, {Kind: 9}, {Kind: core.Star}, {Kind: core.Cat, A: &core.Node{}}} {
		if l, e := New(c, "", 9, many); l != nil || e != api.ErrArg {
			t.Errorf("New of what is no core: %v, %d", l, e)
		}
	}
	for _, most := range []int{0, 10000} {
		list(t, c, "a", most, many)
	}
}

func TestNilList(t *testing.T) {
	var l *List
	for _, i := range []int{-1, 0, 1, math.MaxInt, math.MinInt} {
		if way, ok := l.Way(i); way != nil || ok {
			t.Errorf("Way(%d): %v, %v", i, way, ok)
		}
		if l.Count(i, 0) != 0 || l.Apart(i, i) != -1 || l.Apart(0, i) != -1 || l.Same(i) != 0 {
			t.Errorf("of nil there is %d", i)
		}
	}
	if l.Len() != 0 || l.Whole() {
		t.Error("of nil there is something")
	}
}

// P13.2

func TestCount(t *testing.T) {
	l := list(t, parse(t, "(|)(a|ab)(c|bc)", core.Full), "abc", 10, many)
	for _, x := range [][3]int{
		{0, 0, 2}, {0, 1, 2}, {0, 2, 0}, {1, 2, 2}, {1, 4, 2}, {1, 0, 0}, {2, 3, 2}, {2, 5, 2}, {2, 4, 0},
		{-1, 0, 0}, {3, 0, 0}, {3, 5, 0}, {math.MaxInt, 0, 0}, {math.MinInt, 0, 0}, {0, -1, 0}, {0, 6, 0}, {0, 256, 0}, {0, math.MaxInt, 0}, {0, math.MinInt, 0},
	} {
		if n := l.Count(x[0], x[1]); n != x[2] {
			t.Errorf("Count(%d, %d): %d, not %d", x[0], x[1], n, x[2])
		}
	}
	for _, w := range []string{"", "x"} {
		if list(t, parse(t, "a*", core.Full), w, 10, many).Count(0, 0) != 0 {
			t.Errorf("Count of %q", w)
		}
	}
}

func TestApart(t *testing.T) {
	l := list(t, parse(t, "a*a*", core.Full), "aaa", 10, many) // 000, 001, 011, 111
	for _, x := range [][3]int{
		{0, 0, -1}, {0, 1, 2}, {0, 2, 1}, {0, 3, 0}, {1, 2, 1}, {3, 0, 0}, {2, 1, 1}, {3, 3, -1},
		{-1, 0, -1}, {0, -1, -1}, {4, 0, -1}, {0, 4, -1}, {math.MaxInt, math.MinInt, -1},
	} {
		if at := l.Apart(x[0], x[1]); at != x[2] {
			t.Errorf("Apart(%d, %d): %d, not %d", x[0], x[1], at, x[2])
		}
	}
	if list(t, parse(t, "(|)a", core.Full), "a", 10, many).Apart(0, 1) != -1 {
		t.Error("ways that are the same are apart")
	}
	if list(t, parse(t, "(|)", core.Full), "", 10, many).Apart(0, 1) != -1 {
		t.Error("ways of no byte are apart")
	}
}

func TestSame(t *testing.T) {
	for _, x := range []struct {
		pattern, word string
		most          int
		want          []int
	}{
		{"a*a*", "aa", 10, []int{1, 1, 1}},
		{"(|)(a|a)", "a", 10, []int{2, 2, 2, 2}},
		{"(|)(a|a)", "a", 3, []int{2, 1, 2}}, // of those that are told
		{"(|)a|a", "a", 10, []int{2, 2, 1}},
		{"(a*)*|a*", "aaa", 10, []int{4, 4, 4, 4, 1}},
		{"(|){5}", "", 7, []int{7, 7, 7, 7, 7, 7, 7}},
		{"a", "b", 7, nil},
	} {
		l := list(t, parse(t, x.pattern, core.Full), x.word, x.most, many)
		var got []int
		for i := range l.Len() {
			got = append(got, l.Same(i))
		}
		if !slices.Equal(got, x.want) {
			t.Errorf("Same of %s: %v, not %v", x.pattern, got, x.want)
		}
		for _, i := range []int{-1, l.Len(), math.MaxInt, math.MinInt} {
			way, ok := l.Way(i)
			if l.Same(i) != 0 || way != nil || ok {
				t.Errorf("of way %d of %s there is something", i, x.pattern)
			}
		}
	}
}

func TestAnswersAreNew(t *testing.T) {
	l := list(t, parse(t, "a*a*", core.Full), "aa", 10, many)
	for i := range l.Len() {
		way, _ := l.Way(i)
		for at := range way[:cap(way)] {
			way[:cap(way)][at] = 77
		}
	}
	if got := all(t, l); !slices.EqualFunc(got, [][]int{{0, 0}, {0, 1}, {1, 1}}, slices.Equal[[]int]) {
		t.Errorf("%v", got)
	}
}

// Positions may be more than one byte, or two, tell.
func TestManyPositions(t *testing.T) {
	a, b := &core.Node{Kind: core.Set, Set: bytes.Of('a')}, &core.Node{Kind: core.Set, Set: bytes.Of('b')}
	c, pair := a, &core.Node{Kind: core.Alt, A: a, B: &core.Node{Kind: core.Cat, A: a, B: b}}
	for n := range 18 {
		if n > 0 {
			c = &core.Node{Kind: core.Alt, A: c, B: c}
		}
		// the pair stands behind 2 to the n positions, and one
		l := list(t, &core.Node{Kind: core.Alt, A: &core.Node{Kind: core.Cat, A: b, B: c}, B: pair}, "ab", 10, many)
		want := 1<<n + 2
		way, ok := l.Way(0)
		if !ok || !slices.Equal(way, []int{want, want + 1}) || l.Count(1, want+1) != 1 || l.Len() != 1 {
			t.Errorf("behind %d positions: %v", 1<<n, way)
		}
	}
	most := c
	for range 900 {
		most = &core.Node{Kind: core.Alt, A: most, B: most}
	}
	l := list(t, &core.Node{Kind: core.Alt, A: most, B: b}, "b", 10, many)
	if way, ok := l.Way(0); !ok || !slices.Equal(way, []int{api.Most}) {
		t.Errorf("behind more positions than a number tells: %v", way)
	}
}

// Many ways of a long word are done in time, and in little room.
func TestLong(t *testing.T) {
	w := strings.Repeat("a", 5000)
	l := list(t, parse(t, "a*a*b?", core.Full), w, 5000, 1<<31-1)
	way, ok := l.Way(4999)
	if l.Len() != 5000 || l.Whole() || !ok || way[0] != 0 || way[1] != 1 || l.Count(1, 0) != 4999 || l.Count(4999, 1) != 4999 || l.Apart(0, 4999) != 1 {
		t.Errorf("%d ways, %v", l.Len(), l.Whole())
	}
	l = list(t, parse(t, "(|){20}a*", core.Full), strings.Repeat(w, 40), 40, 1<<31-1)
	if l.Len() != 40 || l.Same(39) != 40 || l.Apart(0, 39) != -1 || l.Count(199999, 0) != 40 {
		t.Errorf("%d ways", l.Len())
	}
}

// P13.3

// runs tells of a way that is no run of an automaton on a word.
func runs(a *auto.Auto, w string, way []int) bool {
	if len(way) != len(w) {
		return false
	}
	next := a.First()
	for i, p := range way {
		if p >= len(next) || next[p] == 0 || !bytes.Has(a.Set(p), w[i]) {
			return false
		}
		next = a.Follow(p)
	}
	return w == "" || a.Last()[way[len(way)-1]] > 0
}

// check holds the ways of a word against its automaton, and what is told of them
// against these.
func check(t *testing.T, c *core.Node, w string) {
	t.Helper()
	a, e := auto.New(c)
	if e != api.OK {
		t.Fatalf("auto.New of %s: %d", core.Text(c), e)
	}
	l := list(t, c, w, mostWays, a.Hits(w))
	ways := all(t, l)
	if !l.Whole() || l.Len() != a.Ways(w) {
		t.Fatalf("%s of %q: %d ways, %v, not %d", core.Text(c), w, l.Len(), l.Whole(), a.Ways(w))
	}
	counts := map[[2]int]int{}
	for i, way := range ways {
		if !runs(a, w, way) {
			t.Fatalf("%s of %q: %v is no run", core.Text(c), w, way)
		}
		for at, p := range way {
			counts[[2]int{at, p}]++
		}
		same := 0
		for k := range ways[:min(len(ways), 20)] {
			apart := -1
			for at := range way {
				if apart < 0 && way[at] != ways[k][at] {
					apart = at
				}
			}
			if got := l.Apart(i, k); got != apart {
				t.Fatalf("%s of %q: Apart of %v and %v: %d", core.Text(c), w, way, ways[k], got)
			}
			if apart < 0 {
				same++
			}
		}
		if len(ways) <= 20 && l.Same(i) != same {
			t.Fatalf("%s of %q: Same of %v: %d, not %d", core.Text(c), w, way, l.Same(i), same)
		}
	}
	for at := range w {
		for p := range a.Places() {
			if got := l.Count(at, p); got != counts[[2]int{at, p}] {
				t.Fatalf("%s of %q: Count(%d, %d): %d", core.Text(c), w, at, p, got)
			}
		}
	}
}

// All patterns of a few parts have the ways that their automatons tell.
func TestAllShortPatterns(t *testing.T) {
	parts := []string{"a", "[ab]", "(", "(|", ")", "|", "*", "*?", "+", "?", "??", "{0}", "{2}", "{1,3}?"}
	words := sample.Words("ab", 3)
	if n := sample.Cores(parts, 4, func(c *core.Node) {
		for _, w := range words {
			check(t, c, w)
		}
	}); n < 5000 {
		t.Errorf("just %d patterns", n)
	}
}

func TestPatternsWithManyWays(t *testing.T) {
	for _, p := range []string{"((a*)*)*b?", "(a|a?)*?b?", "((|a)*b*?|(a*?b)*)*", "(a*a*a*)*", "((a|ab)(b|)(b?|b??))*", "(a{0,3}b?){2,5}", "(a+?|b+)*?(ab|)*"} {
		c := parse(t, p, core.Full)
		for _, w := range sample.Words("ab", 5) {
			check(t, c, w)
		}
	}
}
