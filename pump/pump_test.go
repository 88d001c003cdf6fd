package pump

import (
	"math"
	"strings"
	"testing"

	"caltrop/api"
	"caltrop/auto"
	"caltrop/bytes"
	"caltrop/core"
	"caltrop/degree"
)

// parsed is the automaton of a pattern.
func parsed(t *testing.T, p string, mode int) *auto.Auto {
	t.Helper()
	a, _, e := auto.Parse(p, mode)
	if e != api.OK {
		t.Fatalf("Parse(%.60q): %d", p, e)
	}
	return a
}

// as is the letter a, so many times.
func as(n int) string {
	return strings.Repeat("a", n)
}

func TestFind(t *testing.T) {
	for _, x := range []struct {
		pattern string
		mode    int
		kind    int
	}{
		{"", core.Full, degree.Flat},
		{"a", core.Full, degree.Flat},
		{"a*b", core.Full, degree.Flat},
		{"(aa)*b(aa)*", core.Full, degree.Flat},
		{"b|" + emptySet + "(a|a)*", core.Full, degree.Flat}, // what can't be reached
		{"a*a*", core.Full, degree.Steep},
		{"xyz*yz*", core.Full, degree.Flat},
		{"x(yz)*(yz)*", core.Full, degree.Steep},
		{"a*b?a*", core.Full, degree.Steep},
		{"(aa)*(aaa)*", core.Full, degree.Steep},
		{"(a{7})*(a{8})*", core.Full, degree.Steep},
		{"b*c[bc]*a*a*a*", core.Full, degree.Steep},
		{"a", core.Search, degree.Steep},
		{"(a*)*", core.Full, degree.Wild},
		{"b(a*)*", core.Full, degree.Wild},
		{"x(a|a)*y", core.Full, degree.Wild},
		{"xyz(abc|abc)*", core.Full, degree.Wild},
		{"(a(()|())b|c)*", core.Full, degree.Wild}, // by weights
		{"a*a*x(b|b)*", core.Full, degree.Wild},    // the greater kind, though one feeds another one
		{"(a{5}|a{7})*", core.Full, degree.Wild},
		{"(a*)*", core.Prefix, degree.Wild},
		{"(a*)*b", core.Search, degree.Wild},
		{"(a*)*b{59}", core.Full, degree.Wild}, // too many for a cube, but one splits
	} {
		f, _ := holdFound(t, x.pattern, parsed(t, x.pattern, x.mode))
		if f.Kind != x.kind {
			t.Errorf("Find of %s: %v", x.pattern, f)
		}
	}
}

func TestExample(t *testing.T) {
	set := func(b byte) *core.Node { return &core.Node{Kind: core.Set, Set: bytes.Of(b)} }
	star := func(c *core.Node) *core.Node { return &core.Node{Kind: core.Star, A: c} }
	a := autoOf(t, &core.Node{Kind: core.Cat, A: star(star(set('a'))), B: set('b')})
	if f, e := Find(a); f != (Family{degree.Wild, "a", "a", 0, 0}) || e != api.OK {
		t.Errorf("Find of {{a}}b: %v, %d", f, e)
	}
}

func TestFindErrors(t *testing.T) {
	if f, e := Find(nil); f != (Family{}) || e != api.ErrArg {
		t.Errorf("Find(nil): %v, %d", f, e)
	}
	for _, x := range []struct {
		pattern string
		e       api.Errno
	}{
		{"a{24}", api.ErrNone},
		{"a{25}", api.ErrLong}, // too many for a cube
		{"a*a*b{22}", api.OK},
		{"a*a*b{23}", api.ErrLong},
		{"(a*)*b{59}", api.OK},
		{"(a*)*b{60}", api.ErrLong}, // too many for a square
		{"a{600}", api.ErrLong},
		{"(a|a)*" + emptySet + "a{500}", api.OK},
		{emptySet + "(a|a)*", api.ErrNone},
	} {
		f, e := Find(parsed(t, x.pattern, core.Full))
		if e != x.e || e != api.OK && f != (Family{}) {
			t.Errorf("Find of %s: %v, %d", x.pattern, f, e)
		}
	}
}

func TestWord(t *testing.T) {
	const far = api.MaxText
	for _, x := range []struct {
		f    Family
		k    int
		word string
		e    api.Errno
	}{
		{Family{X: "xy", Y: "ab"}, 0, "xy", api.OK},
		{Family{X: "xy", Y: "ab"}, 1, "xyab", api.OK},
		{Family{X: "xy", Y: "ab"}, 3, "xyababab", api.OK},
		{Family{Kind: degree.Steep, X: "", Y: "ab", P: 7, Q: -1}, 2, "abab", api.OK}, // what else it has is no matter
		{Family{Kind: 9, X: "\x00", Y: "\xff"}, 2, "\x00\xff\xff", api.OK},
		{Family{}, 0, "", api.OK},
		{Family{}, 5, "", api.OK},
		{Family{X: "x"}, math.MaxInt, "x", api.OK}, // of an empty pump no number is too great
		{Family{X: as(far)}, math.MaxInt, as(far), api.OK},
		{Family{X: as(far + 1)}, 0, "", api.ErrLong},
		{Family{X: as(far + 1)}, math.MaxInt, "", api.ErrLong},
		{Family{X: "a", Y: "a"}, -1, "", api.ErrArg},
		{Family{X: "a", Y: ""}, -1, "", api.ErrArg},
		{Family{X: as(far + 1), Y: "a"}, -1, "", api.ErrArg}, // what is named first
		{Family{X: "a", Y: "a"}, math.MinInt, "", api.ErrArg},
		{Family{X: "a", Y: "a"}, far - 1, as(far), api.OK},
		{Family{X: "a", Y: "a"}, far, "", api.ErrLong},
		{Family{X: "", Y: "a"}, far, as(far), api.OK},
		{Family{X: "", Y: "a"}, far + 1, "", api.ErrLong},
		{Family{X: "", Y: as(far)}, 1, as(far), api.OK},
		{Family{X: "", Y: as(far + 1)}, 1, "", api.ErrLong},
		{Family{X: "a", Y: as(far + 1)}, 0, "a", api.OK}, // the pump counts as often as it is there
		{Family{X: "aa", Y: "aaaa"}, far/4 - 1, as(far - 2), api.OK},
		{Family{X: "aa", Y: "aaaa"}, far / 4, "", api.ErrLong},
		{Family{X: "a", Y: "a"}, math.MaxInt, "", api.ErrLong},
		{Family{X: "a", Y: "aa"}, math.MaxInt, "", api.ErrLong}, // products beyond all numbers
		{Family{X: "a", Y: "aa"}, 1 << 62, "", api.ErrLong},
		{Family{X: "a", Y: "aa"}, 1<<62 + 1, "", api.ErrLong},
		{Family{X: "a", Y: as(8)}, 1 << 61, "", api.ErrLong},
		{Family{X: "a", Y: as(1 << 10)}, 1 << 54, "", api.ErrLong},
	} {
		if w, e := Word(x.f, x.k); w != x.word || e != x.e {
			t.Errorf("Word(%.60q, %.60q, %d): %d bytes, %d, not %d, %d", x.f.X, x.f.Y, x.k, len(w), e, len(x.word), x.e)
		}
	}
}

func TestFloor(t *testing.T) {
	for _, x := range []struct{ kind, k, floor int }{
		{degree.Wild, 0, 1},
		{degree.Wild, 1, 2},
		{degree.Wild, 3, 8},
		{degree.Wild, 62, 1 << 62},
		{degree.Wild, 63, api.Most},
		{degree.Wild, 64, api.Most},
		{degree.Wild, math.MaxInt, api.Most},
		{degree.Wild, -1, 0},
		{degree.Wild, math.MinInt, 0},
		{degree.Steep, 0, 0},
		{degree.Steep, 1, 1},
		{degree.Steep, 2, 3},
		{degree.Steep, 3, 6},
		{degree.Steep, 4, 10},
		{degree.Steep, 1000, 500500},
		{degree.Steep, 1<<32 - 1, (1<<32 - 1) << 31},
		{degree.Steep, 1<<32 - 2, (1<<31 - 1) * (1<<32 - 1)},
		{degree.Steep, 1 << 32, api.Most},
		{degree.Steep, math.MaxInt, api.Most},
		{degree.Steep, -1, 0},
		{degree.Steep, math.MinInt, 0},
		{degree.Flat, 3, 0},
		{3, 3, 0},
		{-1, 3, 0},
		{math.MaxInt, 3, 0},
		{math.MinInt, 3, 0},
	} {
		for _, f := range []Family{{Kind: x.kind}, {x.kind, "x", "ab", 0, 1}, {x.kind, "", "", -1, -1}} {
			if n := Floor(f, x.k); n != x.floor {
				t.Errorf("Floor(%v, %d): %d, not %d", f, x.k, n, x.floor)
			}
		}
	}
}

// holdCheck holds whether a family is a pattern's.
func holdCheck(t *testing.T, p string, is bool, l ...Family) {
	t.Helper()
	a := parsed(t, p, core.Full)
	for _, f := range l {
		if Check(a, f) != is {
			t.Errorf("Check of %.60s, %d, %.20q, %.20q, %d, %d: %v", p, f.Kind, f.X, f.Y, f.P, f.Q, !is)
		}
	}
}

func TestCheckWild(t *testing.T) {
	const p = "x(a|a)*b" // x 0, a 1, a 2, b 3
	holdCheck(t, p, true, Family{2, "xa", "aa", 1, 1}, Family{2, "xaaa", "aa", 2, 2}, Family{2, "xa", "aaaaa", 1, 1})
	holdCheck(t, p, false,
		Family{2, "xa", "a", 1, 1},  // in one run
		Family{2, "x", "aa", 1, 1},  // no run ends there
		Family{2, "", "aa", 1, 1},   // nor behind nothing
		Family{2, "xb", "aa", 1, 1}, // nor there
		Family{2, "a", "aa", 1, 1},  // nor is it a run
		Family{2, "xa", "", 1, 1},   // an empty pump
		Family{2, "xa", "aab", 1, 1},
		Family{2, "xa", "aa", 1, 2}, // in two runs, but to another one
		Family{2, "xa", "aa", 2, 1},
		Family{2, "x", "aa", 0, 0},
		Family{2, "xb", "aa", 3, 3},
		Family{1, "xa", "aa", 1, 1}, // another kind
		Family{0, "xa", "aa", 1, 1},
		Family{3, "xa", "aa", 1, 1},
		Family{-1, "xa", "aa", 1, 1},
		Family{2, "xa", "aa", -1, -1}, // what is no position
		Family{2, "xa", "aa", 4, 4},
		Family{2, "xa", "aa", math.MaxInt, math.MaxInt},
		Family{2, "xa", "aa", math.MinInt, math.MinInt},
		Family{},
	)
	holdCheck(t, "(a*)*", true, Family{2, "a", "a", 0, 0}) // by weights
	holdCheck(t, "(a|aa)*", true, Family{2, "a", "aaa", 0, 0})
	holdCheck(t, "(a|aa)*", false, Family{2, "a", "aa", 0, 0})
	holdCheck(t, "a*a*", false, Family{2, "a", "a", 0, 0}, Family{2, "a", "aaaa", 1, 1})
}

func TestCheckSteep(t *testing.T) {
	const p = "xa*b?(a*c)*" // x 0, a 1, b 2, a 3, c 4
	holdCheck(t, p, true, Family{1, "xa", "a", 1, 3}, Family{1, "xaa", "aaa", 1, 3})
	holdCheck(t, p, false,
		Family{1, "x", "a", 1, 3},    // no run ends there
		Family{1, "", "a", 1, 3},     // nor behind nothing
		Family{1, "xaba", "a", 1, 3}, // but with the other one alone
		Family{1, "xa", "", 1, 3},    // an empty pump
		Family{1, "xa", "aba", 1, 3}, // the first one not to itself
		Family{1, "xa", "ac", 3, 4},  // likewise
		Family{1, "xaba", "a", 3, 1}, // the first one not to the other one
		Family{1, "xa", "a", 3, 1},   // likewise
		Family{1, "xa", "b", 1, 2},   // neither to itself
		Family{1, "xa", "a", 1, 1},   // the same one
	)
	for _, kind := range []int{0, 2, 3, -1, math.MaxInt, math.MinInt} { // another kind
		holdCheck(t, p, false, Family{kind, "xa", "a", 1, 3})
	}
	for _, q := range []int{-1, 5, 600, math.MaxInt, math.MinInt} { // what is no position
		holdCheck(t, p, false, Family{1, "xa", "a", 1, q}, Family{1, "xa", "a", q, 3}, Family{1, "xa", "a", q, q - 1})
	}
	// one that feeds another one does so also where the automaton is wild, and of any number of positions
	holdCheck(t, "(a|a)*", true, Family{1, "a", "aa", 0, 1}, Family{1, "a", "a", 1, 0})
	holdCheck(t, "a*a*b{500}", true, Family{1, "a", "a", 0, 1})
	holdCheck(t, "(a|a)*b{500}", true, Family{2, "a", "aa", 1, 1}, Family{1, "a", "a", 0, 1})
	// P to itself, P to Q, and Q not to itself by this word
	holdCheck(t, "a*(aa)*", false, Family{1, "a", "a", 0, 1}, Family{1, "a", "a", 0, 2})
	holdCheck(t, "a*(aa)*", true, Family{1, "a", "aa", 0, 1}, Family{1, "a", "aa", 0, 2})
	// P to Q, Q to itself, and P not to itself by this word
	holdCheck(t, "(aa)*a*", false, Family{1, "a", "a", 0, 2})
	holdCheck(t, "(aa)*a*", true, Family{1, "a", "aa", 0, 2})
	// P to itself, Q to itself, and P not to Q
	holdCheck(t, "a*|a*", false, Family{1, "a", "a", 0, 1})
	holdCheck(t, "(aa)*(aa)*", false, Family{1, "a", "aa", 0, 3})
	holdCheck(t, "(aa)*(aa)*", true, Family{1, "a", "aa", 0, 2})
}

// A prefix, and a pump, may have 10000 bytes, and no more.
func TestCheckLengths(t *testing.T) {
	const most = 10000
	for _, x := range []struct {
		pattern string
		f       Family
	}{
		{"(a|a)*", Family{Kind: 2, P: 1, Q: 1}},
		{"a*a*", Family{Kind: 1, P: 0, Q: 1}},
	} {
		for _, n := range [][2]int{{most, 2}, {1, most}, {most, most}, {most + 1, 2}, {1, most + 1}, {most + 1, most + 1}, {most, most + 1}, {1 << 17, 2}, {1, 1 << 17}} {
			x.f.X, x.f.Y = as(n[0]), as(n[1])
			holdCheck(t, x.pattern, n[0] <= most && n[1] <= most, x.f)
		}
	}
}

func TestReach(t *testing.T) {
	for _, x := range []struct {
		pattern string
		mode    int
		lengths []int // -1: none
	}{
		{"", core.Full, nil},
		{"abc", core.Full, []int{1, 2, 3}},
		{"a?b?c", core.Full, []int{1, 1, 1}},
		{"a{3}(b|c*)d", core.Full, []int{1, 2, 3, 4, 4, 4}},
		{"abc(x|d)|ex", core.Full, []int{1, 2, 3, 4, 4, 1, 2}},
		{"a" + emptySet + "b|c", core.Full, []int{1, -1, -1, 1}},
		{"(ab" + emptySet + "|" + emptySet + "?c)*d", core.Full, []int{1, 2, -1, -1, 1, 1}},
		{emptySet, core.Search, []int{1, -1, -1}},
		{"ab", core.Suffix, []int{1, 1, 2}},
		{"(abc|xd)*e", core.Full, []int{1, 2, 3, 1, 2, 1}},
	} {
		a := parsed(t, x.pattern, x.mode)
		for p, want := range x.lengths {
			w, ok := Reach(a, p)
			if ok != (want >= 0) || len(w) != max(want, 0) || ok && a.Vector(w)[p] == 0 {
				t.Errorf("%s: Reach of %d: %q, %v, not of %d bytes", x.pattern, p, w, ok, want)
			}
		}
		for _, p := range []int{-1, -2, len(x.lengths), len(x.lengths) + 1, 600, math.MaxInt, math.MinInt} {
			if w, ok := Reach(a, p); w != "" || ok {
				t.Errorf("%s: Reach of %d: %q, %v", x.pattern, p, w, ok)
			}
		}
	}
}

func TestNilAutomaton(t *testing.T) {
	for _, p := range []int{0, -1, 1} {
		if w, ok := Reach(nil, p); w != "" || ok {
			t.Errorf("Reach(nil, %d): %q, %v", p, w, ok)
		}
	}
	for _, f := range []Family{{}, {1, "a", "a", 0, 1}, {2, "a", "a", 0, 0}} {
		if Check(nil, f) {
			t.Errorf("Check(nil, %v)", f)
		}
	}
}

// One that wasn't made by auto mustn't panic.
func TestNotMade(t *testing.T) {
	less := parsed(t, "a|b|c", core.Full)
	less.Weights = parsed(t, "a*a*", core.Full).Weights
	more := parsed(t, "a*", core.Full)
	more.Weights = parsed(t, "(a|a)*", core.Full).Weights
	without := parsed(t, "(a|a)*", core.Full)
	without.Weights = nil
	for _, a := range []*auto.Auto{{}, less, more, without} {
		Find(a)
		for i := range 16 {
			Reach(a, i-1)
			Check(a, Family{1, "a", "a", i/4 - 1, i%4 - 1})
			Check(a, Family{2, "a", "aa", i - 1, i - 1})
		}
	}
}

// What is told doesn't hang on what was asked before.
func TestTellsTheSame(t *testing.T) {
	a := parsed(t, "x(ab|a[bc]|cb)*(a|b)*", core.Full)
	f, _ := Find(a)
	w, _ := Reach(a, 5)
	for range 3 {
		again, e := Find(a)
		v, ok := Reach(a, 5)
		if again != f || e != api.OK || v != w || !ok || !Check(a, f) || Check(a, Family{}) {
			t.Errorf("Find: %v, not %v; Reach: %q, not %q", again, f, v, w)
		}
	}
	if g, e := Find(parsed(t, "x(ab|a[bc]|cb)*(a|b)*", core.Full)); g != f || e != api.OK {
		t.Errorf("Find of another one: %v, not %v", g, f)
	}
}

// The greatest ones are done in time.
func TestGreat(t *testing.T) {
	for _, p := range []string{
		"(" + strings.Repeat("a|", 59) + "a)*",
		"(a{29}|a{31})*",
		"([ab]{6}a|a[ab]{13}|b[ab]{10}|a{8}b{6}a{7}b{7})*",
		"b{30}(a{13}|a{17})*",
		strings.Repeat("a*", 24),
		"(a{5})*(a{7})*(a{11})*",
		"(a{11})*b?(a{12})*",
	} {
		if f, ok := holdFound(t, p, parsed(t, p, core.Full)); !ok || len(f.X) > 60 || len(f.Y) > 8000 {
			t.Errorf("Find of %.40s: %d and %d bytes", p, len(f.X), len(f.Y))
		}
	}
	a := parsed(t, "a{600}", core.Full)
	for _, p := range []int{0, 299, 599} {
		if w, ok := Reach(a, p); w != as(p+1) || !ok {
			t.Errorf("Reach of %d: %d bytes", p, len(w))
		}
	}
	if w, ok := Reach(parsed(t, "(?:a?){600}", core.Full), 599); w != "a" || !ok {
		t.Errorf("Reach: %d bytes", len(w))
	}
	holdCheck(t, "(?:a|a)*b{598}", true, Family{2, as(10000), as(10000), 0, 0})
}
