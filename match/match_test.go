package match

import (
	"math"
	"strings"
	"testing"

	"caltrop/api"
	"caltrop/auto"
	"caltrop/bytes"
	"caltrop/core"
	"caltrop/member"
	"caltrop/sample"
)

// parse is a pattern's core.
func parse(t *testing.T, p string, mode int) *core.Node {
	t.Helper()
	c, at, e := core.Parse(p, mode)
	if e != api.OK {
		t.Fatalf("core.Parse(%.60q, %d): %d, %d", p, mode, at, e)
	}
	return c
}

// many is a limit that isn't met.
const many = 1 << 30

// P12.1

func TestMatches(t *testing.T) {
	for _, x := range []struct {
		pattern    string
		mode       int
		word       string
		first, all Result
	}{
		{"", core.Full, "", Result{Found: true, Ways: 1}, Result{Found: true, Ways: 1}},
		{"", core.Full, "a", Result{}, Result{}},
		{"a", core.Full, "", Result{}, Result{}},
		{"a", core.Full, "b", Result{}, Result{}},
		{"a", core.Full, "a", Result{true, false, 1, 1, 1}, Result{true, false, 1, 1, 1}},
		{"a", core.Full, "ab", Result{Hits: 1, Reach: 1}, Result{Hits: 1, Reach: 1}},
		{"abc", core.Full, "abd", Result{Hits: 2, Reach: 2}, Result{Hits: 2, Reach: 2}},
		{"[^\\x00-\\xff]", core.Full, "a", Result{}, Result{}},
		{"[\\x80-\\xff]\\x00", core.Full, "\xff\x00", Result{true, false, 2, 1, 2}, Result{true, false, 2, 1, 2}},
		// the first one of an Alt is tried ahead of the second one
		{"a|a", core.Full, "a", Result{true, false, 1, 1, 1}, Result{true, false, 2, 2, 1}},
		{"ab|ac", core.Full, "ac", Result{true, false, 3, 1, 2}, Result{true, false, 3, 1, 2}},
		{"ac|ab", core.Full, "ac", Result{true, false, 2, 1, 2}, Result{true, false, 3, 1, 2}},
		{"a?", core.Full, "", Result{Found: true, Ways: 1}, Result{Found: true, Ways: 1}},
		{"a??", core.Full, "a", Result{true, false, 1, 1, 1}, Result{true, false, 1, 1, 1}},
		{"(|)", core.Full, "", Result{Found: true, Ways: 1}, Result{Found: true, Ways: 2}},
		// what is still to do behind an Alt is tried once more behind the second one
		{"(a|ab)(c|bc)", core.Full, "abc", Result{true, false, 3, 1, 3}, Result{true, false, 6, 2, 3}},
		{"(a|ab)(c|bcd)", core.Full, "abc", Result{true, false, 6, 1, 3}, Result{true, false, 6, 1, 3}},
		// a greedy Star tries its own first, a lazy one what is still to do
		{"a*ab", core.Full, "aab", Result{true, false, 4, 1, 3}, Result{true, false, 5, 1, 3}},
		{"a*?ab", core.Full, "aab", Result{true, false, 4, 1, 3}, Result{true, false, 5, 1, 3}},
		{"a*", core.Full, "aaa", Result{true, false, 3, 1, 3}, Result{true, false, 3, 1, 3}},
		{"a*a*", core.Full, "aa", Result{true, false, 2, 1, 2}, Result{true, false, 5, 3, 2}},
		{"a*?b|a*c", core.Full, "aac", Result{true, false, 5, 1, 3}, Result{true, false, 5, 1, 3}},
		{"(a|b)*?b", core.Full, "abab", Result{true, false, 5, 1, 4}, Result{true, false, 6, 1, 4}},
		{"(a|b)*b", core.Full, "abab", Result{true, false, 5, 1, 4}, Result{true, false, 6, 1, 4}},
		// of a Star that read nothing no other one is tried
		{"(a*)*", core.Full, "", Result{Found: true, Ways: 1}, Result{Found: true, Ways: 1}},
		{"(|)*", core.Full, "", Result{Found: true, Ways: 1}, Result{Found: true, Ways: 1}},
		{"(|a)*", core.Full, "a", Result{true, false, 1, 1, 1}, Result{true, false, 1, 1, 1}},
		{"(a*)*b", core.Full, "aab", Result{true, false, 3, 1, 3}, Result{true, false, 5, 2, 3}},
		{"(a*)*b", core.Full, "aaa", Result{Hits: 7, Reach: 3}, Result{Hits: 7, Reach: 3}},
		{"(a*?)*?b", core.Full, "aab", Result{true, false, 3, 1, 3}, Result{true, false, 5, 2, 3}},
		// by mode
		{"b", core.Search, "abc", Result{true, false, 3, 1, 3}, Result{true, false, 5, 1, 3}},
		{"b", core.Prefix, "bcd", Result{true, false, 3, 1, 3}, Result{true, false, 3, 1, 3}},
		{"b", core.Suffix, "ab", Result{true, false, 2, 1, 2}, Result{true, false, 3, 1, 2}},
		{"b", core.Search, "aca", Result{Hits: 3, Reach: 3}, Result{Hits: 3, Reach: 3}},
		// the furthest place isn't the last one
		{"aaab|a", core.Full, "aaa", Result{Hits: 4, Reach: 3}, Result{Hits: 4, Reach: 3}},
		{"aa?b|a*?c", core.Full, "aac", Result{true, false, 5, 1, 3}, Result{true, false, 5, 1, 3}},
	} {
		c := parse(t, x.pattern, x.mode)
		if r := First(c, x.word, many); r != x.first {
			t.Errorf("First of %s, %q: %v, not %v", x.pattern, x.word, r, x.first)
		}
		if r := All(c, x.word, many); r != x.all {
			t.Errorf("All of %s, %q: %v, not %v", x.pattern, x.word, r, x.all)
		}
		if r, at, e := Run(x.pattern, x.mode, x.word, many); r != x.first || at != 0 || e != api.OK {
			t.Errorf("Run of %s, %q: %v, %d, %d, not %v", x.pattern, x.word, r, at, e, x.first)
		}
	}
}

func TestLimits(t *testing.T) {
	for _, x := range []struct {
		pattern, word string
		limit         int
		first, all    Result
	}{
		// without a hit none is above the limit
		{"", "", 0, Result{Found: true, Ways: 1}, Result{Found: true, Ways: 1}},
		{"", "", math.MinInt, Result{Found: true, Ways: 1}, Result{Found: true, Ways: 1}},
		{"a*", "b", -1, Result{}, Result{}},
		// the first one above it isn't counted, nor how far it read
		{"a", "a", 0, Result{Stopped: true}, Result{Stopped: true}},
		{"a", "a", -1, Result{Stopped: true}, Result{Stopped: true}},
		{"a", "a", math.MinInt, Result{Stopped: true}, Result{Stopped: true}},
		{"aab", "aab", 2, Result{Stopped: true, Hits: 2, Reach: 2}, Result{Stopped: true, Hits: 2, Reach: 2}},
		{"aab", "aab", 3, Result{true, false, 3, 1, 3}, Result{true, false, 3, 1, 3}},
		{"aab", "aac", 2, Result{Hits: 2, Reach: 2}, Result{Hits: 2, Reach: 2}},
		{"a|bc|bd", "bd", 2, Result{Stopped: true, Hits: 2, Reach: 1}, Result{Stopped: true, Hits: 2, Reach: 1}},
		// what is found at the limit is found; all goes on, and is stopped
		{"a|a", "a", 1, Result{true, false, 1, 1, 1}, Result{true, true, 1, 1, 1}},
		{"a|a", "a", 2, Result{true, false, 1, 1, 1}, Result{true, false, 2, 2, 1}},
		{"a|a|a", "a", 2, Result{true, false, 1, 1, 1}, Result{true, true, 2, 2, 1}},
		{"a?|a", "", 0, Result{Found: true, Ways: 1}, Result{Found: true, Ways: 1}},
		{"a??|a", "a", 0, Result{Stopped: true}, Result{Stopped: true}},
		{"(a*)*b", "aaaa", 5, Result{Stopped: true, Hits: 5, Reach: 4}, Result{Stopped: true, Hits: 5, Reach: 4}},
		{"(a*)*b", "aaaa", 15, Result{Hits: 15, Reach: 4}, Result{Hits: 15, Reach: 4}},
		{"(a*)*b", "aaaa", 14, Result{Stopped: true, Hits: 14, Reach: 4}, Result{Stopped: true, Hits: 14, Reach: 4}},
		{"(a*)*b", strings.Repeat("a", 70), 100000, Result{Stopped: true, Hits: 100000, Reach: 70}, Result{Stopped: true, Hits: 100000, Reach: 70}},
		{"(a|a)*", strings.Repeat("a", 70), 100000, Result{true, false, 70, 1, 70}, Result{true, true, 100000, 49969, 70}},
		{"a", "a", math.MaxInt, Result{true, false, 1, 1, 1}, Result{true, false, 1, 1, 1}},
		// many ways without a hit
		{"(|){60}b", "c", 0, Result{}, Result{}},
		{"(|){60}", "", 0, Result{Found: true, Ways: 1}, Result{Found: true, Ways: 1 << 60}},
		{"(|a?){600}", "", 0, Result{Found: true, Ways: 1}, Result{Found: true, Ways: api.Most}},
		{"(|){60}b", "b", 1000, Result{true, false, 1, 1, 1}, Result{true, true, 1000, 1000, 1}},
		{"(|){60}b", "ba", 1000, Result{Stopped: true, Hits: 1000, Reach: 1}, Result{Stopped: true, Hits: 1000, Reach: 1}},
		{"(a?|b?){60}c", "x", 9, Result{}, Result{}},
	} {
		c := parse(t, x.pattern, core.Full)
		if r := First(c, x.word, x.limit); r != x.first {
			t.Errorf("First of %s, %.9q, %d: %v, not %v", x.pattern, x.word, x.limit, r, x.first)
		}
		if r := All(c, x.word, x.limit); r != x.all {
			t.Errorf("All of %s, %.9q, %d: %v, not %v", x.pattern, x.word, x.limit, r, x.all)
		}
		if r, at, e := Run(x.pattern, core.Full, x.word, x.limit); r != x.first || at != 0 || e != api.OK {
			t.Errorf("Run of %s, %.9q, %d: %v, %d, %d", x.pattern, x.word, x.limit, r, at, e)
		}
	}
}

func TestRunOfFaults(t *testing.T) {
	for _, x := range []struct {
		p    string
		mode int
		at   int
		e    api.Errno
	}{
		{"a", -1, 0, api.ErrArg},
		{"a**", core.Search + 1, 0, api.ErrArg},
		{"a**", core.Full, 2, api.ErrForm},
		{"(?=a)", core.Prefix, 0, api.ErrOther},
		{"a{3,2}", core.Suffix, 4, api.ErrValue},
		{"ab)", core.Search, 2, api.ErrForm},
		{"(a{64}){64}", core.Full, 0, api.ErrLong},
		{strings.Repeat("a", api.MaxText+1), core.Full, 0, api.ErrLong},
	} {
		for _, limit := range []int{-1, 0, many} {
			if r, at, e := Run(x.p, x.mode, "aaa", limit); r != (Result{}) || at != x.at || e != x.e {
				t.Errorf("Run(%.20q, %d): %v, %d, %d, not %d, %d", x.p, x.mode, r, at, e, x.at, x.e)
			}
		}
	}
}

func TestOfNone(t *testing.T) {
	loop := &core.Node{Kind: core.Star}
	loop.A = loop
	for i, c := range []*core.Node{nil, {Kind: 9}, {Kind: core.Star}, {Kind: core.Cat, A: &core.Node{}}, loop} {
		for _, w := range []string{"", "a"} {
			if First(c, w, many) != (Result{}) || All(c, w, many) != (Result{}) {
				t.Errorf("of %d, that is no core: %v, %v", i, First(c, w, many), All(c, w, many))
			}
		}
	}
}

// A pattern may have more positions than an automaton.
func TestManyPositions(t *testing.T) {
	w := strings.Repeat("a", 2000)
	if r := All(parse(t, "(a{1000}){2}", core.Full), w, many); r != (Result{true, false, 2000, 1, 2000}) {
		t.Errorf("%v", r)
	}
	if r := First(parse(t, "(a?){1000}b", core.Full), w[:20], 4000); !r.Stopped || r.Hits != 4000 || r.Reach != 20 {
		t.Errorf("%v", r)
	}
}

// Long words are done in time.
func TestLong(t *testing.T) {
	w := strings.Repeat("ab", 1<<19)
	for _, p := range []string{"(a|b)*", "(ab)*", ".*?", "(a|ab|b)*?", "(a*b*)*"} {
		if r := First(parse(t, p, core.Full), w, 1<<22); !r.Found || r.Reach != len(w) {
			t.Errorf("%s: %v", p, r)
		}
	}
	if r := First(parse(t, "bb", core.Search), w, 1<<22); r.Found || r.Stopped || r.Hits != len(w)+len(w)/2 {
		t.Errorf("%v", r)
	}
}

// P12.2

// automaton is the automaton of a core.
func automaton(t *testing.T, c *core.Node) *auto.Auto {
	t.Helper()
	a, e := auto.New(c)
	if e != api.OK {
		t.Fatalf("auto.New of %.60s: %d", core.Text(c), e)
	}
	return a
}

// check holds a core against its automaton, by a word.
func check(t *testing.T, c *core.Node, a *auto.Auto, w string) {
	t.Helper()
	first, all := First(c, w, many), All(c, w, many)
	ways, hits := a.Ways(w), a.Hits(w)
	if first.Found != member.Means(a, w) || all.Found != first.Found || all.Ways != ways || all.Hits != hits {
		t.Fatalf("%s of %q: %v, %v, not %d, %d", core.Text(c), w, first, all, ways, hits)
	}
	if first.Hits > hits || !first.Found && first != all || first.Found && (first.Ways != 1 || first.Reach != len(w)) {
		t.Fatalf("%s of %q: %v, %v", core.Text(c), w, first, all)
	}
	if r := First(c, w, first.Hits-1); first.Hits > 0 && (!r.Stopped || r.Found || r.Ways != 0 || r.Hits != first.Hits-1) {
		t.Fatalf("%s of %q up to %d: %v", core.Text(c), w, first.Hits-1, r)
	}
	if r := First(c, w, first.Hits); r != first {
		t.Fatalf("%s of %q up to %d: %v, not %v", core.Text(c), w, first.Hits, r, first)
	}
	if r := All(c, w, hits); r != all {
		t.Fatalf("%s of %q up to %d: %v, not %v", core.Text(c), w, hits, r, all)
	}
	if r := All(c, w, hits-1); hits > 0 && (!r.Stopped || r.Ways > all.Ways || r.Hits != hits-1 || r.Found != (r.Ways > 0)) {
		t.Fatalf("%s of %q up to %d: %v", core.Text(c), w, hits-1, r)
	}
}

// All patterns of a few parts are as their automatons tell, by all modes.
func TestAllShortPatterns(t *testing.T) {
	parts := []string{"a", "[ab]", "(", "(|", ")", "|", "*", "*?", "+", "?", "??", "{0}", "{2}", "{1,3}?", "[^\\x00-\\xff]"}
	words := sample.Words("abx", 3)
	if n := sample.Cores(parts, 3, func(c *core.Node) {
		a := automaton(t, c)
		for _, w := range words {
			check(t, c, a, w)
		}
	}); n < 1200 {
		t.Errorf("just %d patterns", n)
	}
}

// What is put together of many nodes is as its automaton tells, too.
func TestGreatCores(t *testing.T) {
	c := &core.Node{Kind: core.Set, Set: bytes.Of('a')}
	for i := range 7 {
		c = &core.Node{Kind: core.Cat + i%2, A: c, B: &core.Node{Kind: core.Star, Lazy: i%3 == 0, A: c}}
		a := automaton(t, c)
		for _, w := range []string{"", "a", "aa", "ab", "aaa"} {
			if a.Hits(w) < 1<<20 && a.Ways(w) < 1<<20 {
				check(t, c, a, w)
			}
		}
	}
	for _, p := range []string{"(((a*)*)*)*b", "(a|a?)*?b", "((|a)*b*?|(a*?b)*)*", "(a*a*a*)*", "((a|ab)(b|)(c?|b??))*", "(a{0,3}b?){2,5}", "(a+?|b+)*?(ab|)*"} {
		c := parse(t, p, core.Full)
		a := automaton(t, c)
		for _, w := range sample.Words("abc", 6) {
			check(t, c, a, w)
		}
	}
}
