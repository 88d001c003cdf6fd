package auto

import (
	"slices"
	"strings"
	"testing"

	"caltrop/api"
	"caltrop/bytes"
	"caltrop/core"
	"caltrop/weigh"
)

// parse is a pattern's automaton.
func parse(t *testing.T, p string, mode int) *Auto {
	t.Helper()
	a, at, e := Parse(p, mode)
	if a == nil || at != 0 || e != api.OK {
		t.Fatalf("Parse(%.60q, %d): %v, %d, %d", p, mode, a, at, e)
	}
	return a
}

// same tells of a list that isn't the one that is asked for.
func same(t *testing.T, what string, got, want []int) {
	t.Helper()
	if !slices.Equal(got, want) {
		t.Errorf("%s: %v, not %v", what, got, want)
	}
}

func TestWords(t *testing.T) {
	most := api.Most
	a64, a63, a62 := strings.Repeat("a", 64), strings.Repeat("a", 63), strings.Repeat("a", 62)
	for _, x := range []struct {
		pattern string
		mode    int
		word    string
		vector  []int
		profile []int
		hits    int
		ways    int
	}{
		{"(a*)*", core.Full, "aaa", []int{4}, []int{1, 2, 4}, 7, 4},
		{"(a*)*", core.Full, "aab", []int{0}, []int{1, 2, 0}, 3, 0},
		{"(a*)*", core.Full, "", []int{0}, nil, 0, 1},
		{"(a|aa)*", core.Full, "aa", []int{1, 1, 1}, []int{2, 3}, 5, 2},
		{"(a|aa)*", core.Full, "aaaa", []int{3, 3, 2}, []int{2, 3, 5, 8}, 18, 5},
		{"a?|", core.Full, "", []int{0}, nil, 0, 2},
		{"a?|", core.Full, "a", []int{1}, []int{1}, 1, 1},
		{"a??a?", core.Full, "", []int{0, 0}, nil, 0, 1},
		{"a??a?", core.Full, "a", []int{1, 1}, []int{2}, 2, 2},
		{"ab", core.Full, "ab", []int{0, 1}, []int{1, 1}, 2, 1},
		{"ab", core.Full, "abab", []int{0, 0}, []int{1, 1, 0, 0}, 2, 0},
		{"ab", core.Full, "a", []int{1, 0}, []int{1}, 1, 0},
		{"ab", core.Full, "b", []int{0, 0}, []int{0}, 0, 0},
		{"ab", core.Prefix, "abz", []int{0, 0, 1}, []int{1, 1, 1}, 3, 1},
		{"a", core.Suffix, "aa", []int{1, 1}, []int{2, 2}, 4, 1},
		{"a", core.Search, "aa", []int{1, 1, 1}, []int{2, 3}, 5, 2},
		{"()", core.Full, "", nil, nil, 0, 1},
		{"()", core.Full, "ab", nil, []int{0, 0}, 0, 0},
		{"[^\\x00-\\xff]", core.Full, "a", []int{0}, []int{0}, 0, 0},
		{"[\\x80-\\xff]+", core.Full, "\x80\xff", []int{0, 1}, []int{1, 1}, 2, 1},
		{"(a|a)*b", core.Full, a62, []int{1 << 61, 1 << 61, 0}, nil, most - 1, 0},
		{"(a|a)*b", core.Full, a62 + "b", []int{0, 0, 1 << 62}, nil, most, 1 << 62},
		{"(a|a)*b", core.Full, a63, []int{1 << 62, 1 << 62, 0}, nil, most, 0},
		{"(a|a)*b", core.Full, a63 + "b", []int{0, 0, most}, nil, most, most},
		{"(a|a)*b", core.Full, a64, []int{most, most, 0}, nil, most, 0},
		{"(a|a)*b", core.Full, a64 + "b", []int{0, 0, most}, nil, most, most},
		{"(a|a)*b", core.Full, a64 + "c", []int{0, 0, 0}, nil, most, 0},
	} {
		a := parse(t, x.pattern, x.mode)
		what := x.pattern + " of " + x.word
		same(t, "Vector: "+what, a.Vector(x.word), x.vector)
		if l := a.Profile(x.word); x.profile != nil || x.word == "" {
			same(t, "Profile: "+what, l, x.profile)
		}
		if n := a.Hits(x.word); n != x.hits {
			t.Errorf("Hits: %s: %d, not %d", what, n, x.hits)
		}
		if n := a.Ways(x.word); n != x.ways {
			t.Errorf("Ways: %s: %d, not %d", what, n, x.ways)
		}
	}
}

func TestBegin(t *testing.T) {
	a := parse(t, "(|)a|[a-c]|bc", core.Full)
	same(t, "a", a.Begin('a'), []int{2, 1, 0, 0})
	same(t, "b", a.Begin('b'), []int{0, 1, 1, 0})
	same(t, "c", a.Begin('c'), []int{0, 1, 0, 0})
	same(t, "d", a.Begin('d'), []int{0, 0, 0, 0})
	same(t, "no position", parse(t, "", core.Full).Begin('a'), nil)
}

func TestStep(t *testing.T) {
	a := parse(t, "(?:a|a*b)*", core.Full)
	for _, x := range []struct {
		v    []int
		b    byte
		want []int
	}{
		{[]int{1, 0, 0}, 'a', []int{1, 1, 0}},
		{[]int{1, 0, 0}, 'b', []int{0, 0, 1}},
		{[]int{0, 1, 0}, 'a', []int{0, 1, 0}},
		{[]int{2, 3, 5}, 'a', []int{7, 10, 0}},
		{[]int{2, 3, 5}, 'b', []int{0, 0, 10}},
		{[]int{2, 3, 5}, 'c', []int{0, 0, 0}},
		{[]int{2, 3, 5, 7, 11}, 'b', []int{0, 0, 10}}, // more places
		{[]int{2, 3}, 'b', []int{0, 0, 5}},            // missing ones
		{[]int{2}, 'b', []int{0, 0, 2}},
		{nil, 'b', []int{0, 0, 0}},
		{[]int{-2, 3, -5}, 'b', []int{0, 0, 3}}, // below 0
		{[]int{-api.Most - 1, -1, -1}, 'a', []int{0, 0, 0}},
		{[]int{api.Most, 1, 0}, 'b', []int{0, 0, api.Most}},
		{[]int{api.Most, api.Most, api.Most}, 'a', []int{api.Most, api.Most, 0}},
		{[]int{api.Most - 1, 1, 0}, 'b', []int{0, 0, api.Most}},
		{[]int{api.Most - 2, 1, 0}, 'b', []int{0, 0, api.Most - 1}},
	} {
		given := slices.Clone(x.v)
		same(t, "Step", a.Step(given, x.b), x.want)
		same(t, "what was handed in", given, x.v)
	}
	heavy := parse(t, "(a*)*", core.Full)
	same(t, "times two", heavy.Step([]int{1 << 61}, 'a'), []int{1 << 62})
	same(t, "times two", heavy.Step([]int{1 << 62}, 'a'), []int{api.Most})
	same(t, "no position", parse(t, "", core.Full).Step([]int{1, 2}, 'a'), nil)
}

func TestErrors(t *testing.T) {
	for _, x := range []struct {
		p    string
		mode int
		at   int
		e    api.Errno
	}{
		{"a{3,2}", core.Full, 4, api.ErrValue},
		{"(?=a)", core.Full, 0, api.ErrOther},
		{"ab)", core.Full, 2, api.ErrForm},
		{"a", -1, 0, api.ErrArg},
		{"a", core.Search + 1, 0, api.ErrArg},
		{strings.Repeat("a", api.MaxText+1), core.Full, 0, api.ErrLong},
		{"a{601}", core.Full, 0, api.ErrLong},
		{"x(a{300}){2}", core.Full, 0, api.ErrLong},
		{"a{599}b{0}", core.Search, 0, api.ErrLong},
		{"(a{1000}){1000}", core.Full, 0, api.ErrLong},
	} {
		if a, at, e := Parse(x.p, x.mode); a != nil || at != x.at || e != x.e {
			t.Errorf("Parse(%.20q, %d): %v, %d, %d", x.p, x.mode, a, at, e)
		}
	}
	for _, x := range []struct {
		c *core.Node
		e api.Errno
	}{
		{nil, api.ErrArg},
		{&core.Node{Kind: core.Star}, api.ErrArg},
		{&core.Node{Kind: core.Cat, A: &core.Node{}}, api.ErrArg},
		{&core.Node{Kind: 77}, api.ErrArg},
		{&core.Node{Kind: -1}, api.ErrArg},
	} {
		if a, e := New(x.c); a != nil || e != x.e {
			t.Errorf("New: %v, %d", a, e)
		}
	}
	if c, _, e := core.Parse("a{601}", core.Full); e == api.OK {
		if a, e := New(c); a != nil || e != api.ErrLong {
			t.Errorf("New of 601: %v, %d", a, e)
		}
	}
	if a := parse(t, "a{600}", core.Full); a.Ways(strings.Repeat("a", 600)) != 1 || a.Ways(strings.Repeat("a", 599)) != 0 {
		t.Errorf("600 positions")
	}
}

// An error of core's is told at core's place.
func TestErrorsOfCore(t *testing.T) {
	for _, p := range []string{"(", "a**", "[", "[b-a]", "a{1001}", "\\", "((a{1000}){1000})b", "(a{64}){64}", "(?<n>a)", "^a"} {
		_, wantAt, want := core.Parse(p, core.Prefix)
		if a, at, e := Parse(p, core.Prefix); want == api.OK || a != nil || at != wantAt || e != want {
			t.Errorf("%s: %v, %d, %d, not %d, %d", p, a, at, e, wantAt, want)
		}
	}
}

func TestNilAutomaton(t *testing.T) {
	var a *Auto
	if a.Begin('a') != nil || a.Step([]int{1}, 'a') != nil || a.Vector("a") != nil || a.Vector("") != nil || a.Profile("a") != nil {
		t.Errorf("a list of nil")
	}
	if a.Hits("a") != 0 || a.Ways("") != 0 || a.Ways("a") != 0 || a.Blocks() != nil {
		t.Errorf("something of nil")
	}
}

// One that wasn't made by New mustn't panic.
func TestNotMade(t *testing.T) {
	c, _, _ := core.Parse("ab", core.Full)
	w, _ := weigh.New(c)
	for _, a := range []*Auto{{}, {Weights: w}} {
		a.Begin('a')
		a.Step([]int{1, 2}, 'a')
		a.Vector("ab")
		a.Profile("ab")
		a.Hits("ab")
		a.Ways("ab")
		a.Ways("")
		a.Blocks()
	}
	a := parse(t, "abc", core.Full)
	a.Weights = w
	a.Ways("abc")
	a.Step([]int{1, 1, 1}, 'b')
}

// The weights are those of the core.
func TestWeights(t *testing.T) {
	c, _, _ := core.Parse("(a*)*b|", core.Search)
	a, e := New(c)
	w, _ := weigh.New(c)
	if e != api.OK || a.Places() != w.Places() || a.Void() != w.Void() || a.Edges() != w.Edges() {
		t.Fatalf("%v, %d", a, e)
	}
	same(t, "First", a.First(), w.First())
	same(t, "Last", a.Last(), w.Last())
	same(t, "Heavy", a.Heavy(), w.Heavy())
	for p := range w.Places() {
		same(t, "Follow", a.Follow(p), w.Follow(p))
		if a.Set(p) != w.Set(p) {
			t.Errorf("Set(%d)", p)
		}
	}
}

func TestBlocks(t *testing.T) {
	x := parse(t, "a[a-c]*", core.Full).Blocks()
	if x.Count() != 3 || x.Of('z') != 0 || x.Of('a') != 1 || x.Of('c') != 2 || x.Set(2) != bytes.Of('b', 'c') {
		t.Errorf("Blocks: %d", x.Count())
	}
	if x := parse(t, "", core.Full).Blocks(); x.Count() != 1 || x.Set(0) != bytes.All() {
		t.Errorf("of no sets: %d", x.Count())
	}
	if x := parse(t, "a|", core.Search).Blocks(); x.Count() != 2 {
		t.Errorf("of a search: %d", x.Count())
	}
	// a set that nothing can come to counts, too
	if x := parse(t, "(?:[^\\x00-\\xff]b)?", core.Full).Blocks(); x.Count() != 2 || x.Of('b') != 1 {
		t.Errorf("of what can't be reached: %d", x.Count())
	}
}

// What is answered is new, and what is handed in isn't kept.
func TestAnswersAreNew(t *testing.T) {
	a := parse(t, "(a*)*b?", core.Full)
	spoil := func(l []int) {
		for i := range l[:cap(l)] {
			l[:cap(l)][i] = 99
		}
	}
	v := []int{1, 1, 7, 7}[:2]
	a.Step(v, 'a')
	if whole := v[:4]; whole[2] != 7 || whole[3] != 7 {
		t.Errorf("spare room: %v", whole)
	}
	next := a.Step(v, 'a')
	spoil(next)
	same(t, "what was handed in", v, []int{1, 1})
	for range 2 {
		for _, l := range [][]int{a.Begin('a'), a.Step(v, 'a'), a.Vector(""), a.Vector("a"), a.Vector("ab"), a.Profile("aa"), a.First(), a.Last(), a.Follow(0)} {
			spoil(l)
		}
	}
	same(t, "Begin", a.Begin('a'), []int{1, 0})
	same(t, "Step", a.Step([]int{1}, 'b'), []int{0, 1})
	same(t, "Vector", a.Vector("aab"), []int{0, 2})
	same(t, "Vector", a.Vector(""), []int{0, 0})
	same(t, "Profile", a.Profile("aab"), []int{1, 2, 2})
	if a.Ways("aab") != 2 || a.Ways("") != 1 {
		t.Errorf("Ways: %d, %d", a.Ways("aab"), a.Ways(""))
	}
}

// Long words, and great automata, are done in time.
func TestLong(t *testing.T) {
	word := strings.Repeat("a", 1<<20)
	if n := parse(t, "a*", core.Full).Hits(word); n != 1<<20 {
		t.Errorf("Hits: %d", n)
	}
	if l := parse(t, "a*a*", core.Full).Vector(word); !slices.Equal(l, []int{1, 1 << 20}) {
		t.Errorf("Vector: %v", l)
	}
	if n := parse(t, "(?:a{599})*b", core.Full).Ways(word[:599*300] + "b"); n != 1 {
		t.Errorf("Ways: %d", n)
	}
	a := parse(t, "(?:a?){599}", core.Full)
	if n := a.Ways("aa"); n != 599*598/2 {
		t.Errorf("Ways: %d", n)
	}
	if n := a.Ways(word[:200]); n != api.Most {
		t.Errorf("Ways: %d", n)
	}
}
