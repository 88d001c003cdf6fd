package stop

import (
	"math"
	"slices"
	"strings"
	"testing"

	"caltrop/api"
	"caltrop/auto"
	"caltrop/core"
	"caltrop/match"
	"caltrop/member"
	"caltrop/pump"
)

// parsed is the automaton of a pattern.
func parsed(t *testing.T, p string, mode int) *auto.Auto {
	t.Helper()
	a, _, e := auto.Parse(p, mode)
	if e != api.OK {
		t.Fatalf("Parse(%.60q): %d", p, e)
	}
	return a
}

// every is a set of all bytes.
const every = "[\\x00-\\xff]"

// everyByte is all bytes, rising.
func everyByte() string {
	var l []byte
	for b := range 256 {
		l = append(l, byte(b))
	}
	return string(l)
}

func TestFind(t *testing.T) {
	for _, x := range []struct {
		pattern string
		from    []int
		budget  int
		tail    string
		e       api.Errno
	}{
		// the first set is one of them
		{"a*b", []int{0}, 0, "", api.ErrFull},
		{"a*b", []int{0}, 1, "", api.OK},
		{"a*b", nil, 0, "", api.ErrFull},
		{"a*b", nil, 1, "", api.OK}, // of no positions none may be the last one
		{"", nil, 0, "", api.ErrFull},
		{"", nil, 1, "", api.OK}, // though nothing is meant
		{"a*b", []int{1}, 0, "", api.ErrFull},
		{"a*b", []int{1}, 1, "", api.ErrFull},
		{"a*b", []int{1}, 2, "\x00", api.OK}, // nothing alive is a set, too
		{"a*b", []int{0, 1}, 2, "\x00", api.OK},
		{"a*b", []int{0, 1}, math.MaxInt, "\x00", api.OK},
		{"[^b]*", []int{0}, 1, "", api.ErrFull},
		{"[^b]*", []int{0}, 2, "b", api.OK}, // the first set again is no other one
		// without one: none, if the budget is as many as there are
		{every + "*", []int{0}, 0, "", api.ErrFull},
		{every + "*", []int{0}, 1, "", api.ErrNone},
		{every + "*", []int{0}, math.MaxInt, "", api.ErrNone},
		{every + "*" + every + "*", []int{0}, 1, "", api.ErrFull},
		{every + "*" + every + "*", []int{0}, 2, "", api.ErrNone},
		{every + "*" + every + "*", []int{1}, 1, "", api.ErrNone},
		{"(a" + every + "*|[^a]" + every + "*)?", []int{0}, 1, "", api.ErrFull},
		{"(a" + every + "*|[^a]" + every + "*)?", []int{0}, 2, "", api.ErrNone}, // what can't be reached from there isn't met
	} {
		if w, e := Find(parsed(t, x.pattern, core.Full), x.from, x.budget); w != x.tail || e != x.e {
			t.Errorf("Find of %s, %v, %d: %q, %d, not %q, %d", x.pattern, x.from, x.budget, w, e, x.tail, x.e)
		}
	}
}

func TestTails(t *testing.T) {
	for _, x := range []struct {
		pattern string
		mode    int
		from    []int
		tail    string
	}{
		{"(a*)*", core.Full, []int{0}, "\x00"},
		{"[^\\x00]*", core.Full, []int{0}, "\x00"},
		{"[^\\xff]*", core.Full, []int{0}, "\xff"},
		{"[^x-z]*", core.Full, []int{0}, "x"},
		{"[^x-zg-h]*", core.Full, []int{0}, "g"},
		{"[^q]*[^x]*", core.Full, []int{0}, "qx"}, // q lets the second one alone go on
		{"[^q]*[^x]*", core.Full, []int{1}, "x"},
		{"[^q]*[^x]*", core.Full, []int{0, 1}, "qx"},
		{"a*(|[^b]" + every + "*|b(|[^c]" + every + "*|c(|[^d]" + every + "*)))", core.Full, []int{0}, "bcd"},
		{"a*b(c?d?e?)", core.Full, []int{0}, ""},
		{"a*b(c?d?e?)", core.Full, []int{1}, "\x00"},
		{"(a|b" + every + "c?)*", core.Full, []int{1}, ""},
		{"(a|b" + every + ")*", core.Full, []int{0}, "\x00"},
		{"([^b]|b" + every + ")*", core.Full, []int{0}, "b"}, // it is alive, but may not be the last one
		{"([^b]|b" + every + ")*", core.Full, []int{1}, ""},
		{"([^b]|b" + every + "c)*", core.Full, []int{0}, "b"},
		{"a", core.Suffix, []int{1}, "\x00"}, // the rest is alive, still
		{"a", core.Suffix, []int{0}, ""},
		{"aa", core.Suffix, []int{2}, "\x00"},
		{"[^b][^b]", core.Suffix, []int{0, 2}, "\x00"},
		{"[^b][^b]", core.Suffix, []int{0, 1, 2}, "b"},
	} {
		m := modelOf(parsed(t, x.pattern, x.mode))
		m.bytes = everyByte()
		if n := holdFind(t, x.pattern, m, x.from); n != len(x.tail) {
			t.Errorf("%s, %v: a tail of %d bytes", x.pattern, x.from, n)
		}
		if w, e := Find(m.Auto, x.from, 1000); w != x.tail || e != api.OK {
			t.Errorf("Find of %s, %v: %q, %d, not %q", x.pattern, x.from, w, e, x.tail)
		}
	}
}

func TestFindErrors(t *testing.T) {
	for _, budget := range []int{0, 1, -1, math.MaxInt, math.MinInt} {
		if w, e := Find(nil, []int{0}, budget); w != "" || e != api.ErrArg {
			t.Errorf("Find(nil, %d): %q, %d", budget, w, e)
		}
	}
	for _, budget := range []int{-1, -2, math.MinInt} {
		for _, from := range [][]int{nil, {0}, {1}, {7}} {
			if w, e := Find(parsed(t, "a*b", core.Full), from, budget); w != "" || e != api.ErrArg {
				t.Errorf("Find of %v, %d: %q, %d", from, budget, w, e)
			}
		}
	}
}

// What is no position counts for nothing, nor does the order, nor how often one is
// told: also where the same set is met again.
func TestFrom(t *testing.T) {
	for _, x := range []struct {
		pattern  string
		from, as []int
	}{
		{"([^b]|b[^c])*", []int{}, nil},
		{"([^b]|b[^c])*", []int{-1, 3, math.MaxInt, math.MinInt, 600, 1 << 32}, nil},
		{"([^b]|b[^c])*", []int{0, 0, 0}, []int{0}},
		{"([^b]|b[^c])*", []int{2, 0, -5, 0, 3, 2}, []int{0, 2}},
		{"([^b]|b[^c])*", []int{2, 1, 0, 1}, []int{0, 1, 2}},
		{"([^b]|b[^c])*", []int{math.MaxInt, 1}, []int{1}},
		{"([^b]|b[^c])*", []int{256, 1, 257, 1 << 32}, []int{1}},
		{every + "*" + every + "*", []int{1, 0}, []int{0, 1}},
		{every + "*" + every + "*", []int{0, 1, 0, 0, 1}, []int{0, 1}},
		{every + "*" + every + "*", []int{0, 1, 2}, []int{0, 1}},
		{every + "*" + every + "*", []int{0, 1, math.MaxInt}, []int{0, 1}},
		{every + "*" + every + "*", []int{-1, 0, 1}, []int{0, 1}},
		{every + "*" + every + "*", []int{math.MinInt, 0, 1}, []int{0, 1}},
		{every + "*" + every + "*", []int{1, 1 << 32, 1 << 16, 256}, []int{1}},
	} {
		a := parsed(t, x.pattern, core.Full)
		given := slices.Clone(x.from)
		for budget := range 9 {
			w, e := Find(a, x.from, budget)
			if want, we := Find(a, x.as, budget); w != want || e != we {
				t.Errorf("Find of %s, %v, %d: %q, %d, not %q, %d", x.pattern, x.from, budget, w, e, want, we)
			}
		}
		for _, w := range []string{"", "b", "bc", "bd", "d"} {
			if Stops(a, x.from, w) != Stops(a, x.as, w) {
				t.Errorf("Stops of %s, %v, %q: %v", x.pattern, x.from, w, Stops(a, x.from, w))
			}
		}
		if !slices.Equal(x.from, given) {
			t.Errorf("what was handed in: %v, not %v", x.from, given)
		}
	}
}

func TestStops(t *testing.T) {
	for _, x := range []struct {
		pattern string
		from    []int
		tail    string
		stops   bool
	}{
		{"a*b", []int{0}, "", true},
		{"a*b", []int{0}, "a", true},
		{"a*b", []int{0}, "aab", false},
		{"a*b", []int{0}, "b", false},
		{"a*b", []int{0}, "ba", true},
		{"a*b", []int{0}, "bb", true},
		{"a*b", []int{0}, "x", true},
		{"a*b", []int{0}, "xb", true},
		{"a*b", []int{1}, "", false},
		{"a*b", []int{1}, "b", true},
		{"a*b", []int{0, 1}, "", false},
		{"a*b", []int{0, 1}, "b", false},
		{"a*b", []int{1, 0}, "a", true},
		{"a*b", nil, "", true},
		{"a*b", nil, "b", true},
		{"a*b", []int{-1, 2, 600}, "", true},
		{"a*b", []int{-1, 2, 600}, "b", true},
		{"", nil, "", true},
		{"", []int{0}, "", true},
		{"a*", []int{0}, "", false},
		{"a*", []int{0}, strings.Repeat("a", 1<<16), false},
		{"a*", []int{0}, strings.Repeat("a", 1<<16) + "b", true},
		{"a*", []int{0}, "b" + strings.Repeat("a", 1<<20), true},
		{every + "*", []int{0}, "abc\xff\x00", false},
	} {
		if Stops(parsed(t, x.pattern, core.Full), x.from, x.tail) != x.stops {
			t.Errorf("Stops of %s, %v, %.20q: %v", x.pattern, x.from, x.tail, !x.stops)
		}
	}
	for _, w := range []string{"", "a"} {
		if Stops(nil, nil, w) || Stops(nil, []int{0}, w) {
			t.Errorf("Stops(nil, %q)", w)
		}
	}
}

// wild is a family by two a at the beginning, with a pump of so many a.
func wild(n int) pump.Family {
	return pump.Family{Kind: 2, X: "a", Y: strings.Repeat("a", n)}
}

func TestOf(t *testing.T) {
	for _, x := range []struct {
		pattern string
		f       pump.Family
		want    []int
	}{
		{"(a*)*b", wild(1), []int{0}},
		{"(a|a)*b", wild(2), []int{0, 1}},
		{"(a|a)*|aaaa", wild(2), []int{0, 1, 2, 4}}, // behind a, and aaa
		{"(a|a)*|aaaab", wild(3), []int{0, 1, 2, 5}},
		{"(a|a)*|aa(aa)*", wild(2), []int{0, 1, 2, 4}},
		{"(a|a)*|aaa*", wild(2), []int{0, 1, 2, 4}},
		{"(a|a)*|(aaa)*", wild(2), []int{0, 1, 2, 3, 4}}, // 2, then 4, then 3
		{"(a|a)*|(aaa)*", wild(3), []int{0, 1, 2}},
		{"(a|a)*|(aaa)*b", wild(6), []int{0, 1, 2}},
		{"(a|a)*a*", wild(2), []int{0, 1, 2}},
		{"a*a*", pump.Family{Kind: 1, X: "a", Y: "a", P: 0, Q: 1}, []int{0, 1}},
		{"xa*b?a*a", pump.Family{Kind: 1, X: "xa", Y: "a", P: 1, Q: 3}, []int{1, 3, 4}},
		{"xa*b?a*", pump.Family{Kind: 1, X: "xa", Y: "a", P: 1, Q: 3}, []int{1, 3}},
		// of what is none of it
		{"(a*)*b", pump.Family{}, nil},
		{"(a*)*b", pump.Family{Kind: 2, X: "b", Y: "a"}, nil},
		{"(a*)*b", pump.Family{Kind: 2, X: "", Y: "a"}, nil},
		{"(a*)*b", pump.Family{Kind: 2, X: "a", Y: ""}, nil},
		{"(a*)*b", pump.Family{Kind: 1, X: "a", Y: "a"}, nil},
		{"(a*)*b", pump.Family{Kind: 2, X: "a", Y: "a", P: 1, Q: 1}, nil},
		{"(a*)*b", pump.Family{Kind: 2, X: "a", Y: "a", P: 2, Q: 2}, nil},
		{"(a*)*b", wild(10001), nil},
		{"a*a*", wild(1), nil},
		{"", wild(1), nil},
	} {
		a := parsed(t, x.pattern, core.Full)
		l := Of(a, x.f)
		if !slices.Equal(l, x.want) {
			t.Errorf("Of of %s, %.60v: %v, not %v", x.pattern, x.f, l, x.want)
		}
		w, e := Attack(a, x.f, 100)
		if want, we := Find(a, x.want, 100); x.want != nil && (w != want || e != we) || x.want == nil && (w != "" || e != api.ErrArg) {
			t.Errorf("Attack of %s, %.60v: %q, %d", x.pattern, x.f, w, e)
		}
	}
	if l := Of(nil, wild(1)); l != nil {
		t.Errorf("Of(nil): %v", l)
	}
}

func TestExample(t *testing.T) {
	a := parsed(t, "(a*)*b", core.Full)
	for budget, e := range []api.Errno{api.ErrFull, api.OK, api.OK} {
		if w, got := Attack(a, wild(1), budget); w != "" || got != e {
			t.Errorf("Attack of (a*)*b, %d: %q, %d", budget, w, got)
		}
	}
}

func TestAttack(t *testing.T) {
	for _, x := range []struct {
		pattern string
		f       pump.Family
		budget  int
		tail    string
		e       api.Errno
	}{
		{"(a*)*", wild(1), 0, "", api.ErrFull},
		{"(a*)*", wild(1), 1, "", api.ErrFull},
		{"(a*)*", wild(1), 2, "\x00", api.OK},
		{"(a*)*", wild(1), 10, "\x00", api.OK},
		{"(a*)*" + every + "*", wild(1), 1, "", api.ErrFull},
		{"(a*)*" + every + "*", wild(1), 2, "", api.ErrNone},
		{"(a*)*" + every + "*", wild(1), math.MaxInt, "", api.ErrNone},
		{"(a*)*b|a", wild(1), 9, "\x00", api.OK}, // the word of no pumps alone is meant, but it is one of the family
		{"(a*)*b|aa", wild(1), 9, "\x00", api.OK},
		{"(a*)*b|aaa", wild(2), 9, "\x00", api.OK}, // that of one pump alone
		{"(a|a)*b|(aaa)*", wild(3), 9, "", api.OK},
		{"(a|a)*b|(aaa)*", wild(2), 9, "\x00", api.OK},
		{"(a*)*", wild(1), -1, "", api.ErrArg},
		{"(a*)*", wild(1), math.MinInt, "", api.ErrArg},
		{"(a*)*b", wild(1), -1, "", api.ErrArg},
		{"a*b", wild(1), 10, "", api.ErrArg},
		{"a*b", wild(1), -1, "", api.ErrArg},
		{"a*b", wild(1), 0, "", api.ErrArg}, // ahead of a budget that is too small
	} {
		if w, e := Attack(parsed(t, x.pattern, core.Full), x.f, x.budget); w != x.tail || e != x.e {
			t.Errorf("Attack of %s, %v, %d: %q, %d, not %q, %d", x.pattern, x.f, x.budget, w, e, x.tail, x.e)
		}
	}
	if w, e := Attack(nil, wild(1), 10); w != "" || e != api.ErrArg {
		t.Errorf("Attack(nil): %q, %d", w, e)
	}
}

func TestWord(t *testing.T) {
	const most = api.MaxText
	long := strings.Repeat("z", most)
	for _, x := range []struct {
		f    pump.Family
		tail string
		k    int
		word string
		e    api.Errno
	}{
		{pump.Family{X: "x", Y: "ab"}, "z", 0, "xz", api.OK},
		{pump.Family{X: "x", Y: "ab"}, "yz", 2, "xababyz", api.OK},
		{pump.Family{X: "x", Y: "ab"}, "", 2, "xabab", api.OK},
		{pump.Family{}, "", 0, "", api.OK},
		{pump.Family{}, "\x00\xff", 9, "\x00\xff", api.OK},
		{pump.Family{}, "z", math.MaxInt, "z", api.OK},
		{pump.Family{}, "z", -1, "", api.ErrArg},
		{pump.Family{}, long + "z", -1, "", api.ErrArg},
		{pump.Family{}, long, 0, long, api.OK},
		{pump.Family{}, long + "z", 0, "", api.ErrLong},
		{pump.Family{X: "x", Y: "z"}, long, 0, "", api.ErrLong},
		{pump.Family{X: "z", Y: "z"}, long[:most-1], 0, long, api.OK},
		{pump.Family{X: "z", Y: "z"}, long[:most-1], 1, "", api.ErrLong},
		{pump.Family{X: "z", Y: "z"}, long[:9], most - 10, long, api.OK},
		{pump.Family{X: "z", Y: "z"}, long[:9], most - 9, "", api.ErrLong},
		{pump.Family{X: "z", Y: "z"}, "", most - 1, long, api.OK},
		{pump.Family{X: "z", Y: "z"}, "z", most - 1, "", api.ErrLong},
		{pump.Family{X: "z", Y: "z"}, "", most, "", api.ErrLong},
		{pump.Family{X: "z", Y: "zz"}, "z", math.MaxInt, "", api.ErrLong},
		{pump.Family{X: "z", Y: "zz"}, "z", 1 << 62, "", api.ErrLong},
		{pump.Family{X: "z", Y: "zz"}, "z", math.MinInt, "", api.ErrArg},
	} {
		if w, e := Word(x.f, x.tail, x.k); w != x.word || e != x.e {
			t.Errorf("Word(%.20q, %.20q, %.20q, %d): %d bytes, %d, not %d, %d", x.f.X, x.f.Y, x.tail, x.k, len(w), e, len(x.word), x.e)
		}
	}
}

// With a tail no word of a family is found, however many pumps it has.
func TestManyPumps(t *testing.T) {
	for _, p := range []string{"(a*)*b", "x(a|a)*y", "(ab|a[bc])*c?(a|b)*", "a*a*", "(a|aa)*|(a{3})*b", "[^b]*[^c]*[^d]*"} {
		c, _, _ := core.Parse(p, core.Full)
		a := parsed(t, p, core.Full)
		f, _ := pump.Find(a)
		z, e := Attack(a, f, 1000)
		if e != api.OK {
			t.Fatalf("Attack of %s: %d", p, e)
		}
		for _, k := range []int{0, 1, 2, 10, 100, 1000} {
			w, e := Word(f, z, k)
			if r := match.First(c, w, 1<<16); e != api.OK || member.Means(a, w) || r.Found || r.Hits != min(a.Hits(w), 1<<16) {
				t.Errorf("%s: %v on the word of %d pumps, and %q", p, r, k, z)
			}
		}
	}
}

// One that wasn't made by auto mustn't panic.
func TestNotMade(t *testing.T) {
	less := parsed(t, "a|b|c", core.Full)
	less.Weights = parsed(t, "a*a*", core.Full).Weights
	more := parsed(t, "a*", core.Full)
	more.Weights = parsed(t, "(a|a)*", core.Full).Weights
	without := parsed(t, "(a|a)*", core.Full)
	without.Weights = nil
	for _, a := range []*auto.Auto{{}, less, more, without} {
		for _, from := range [][]int{nil, {0}, {0, 1, 2}, {-1, 7}} {
			Find(a, from, 10)
			Stops(a, from, "aab")
		}
		for p := range 3 {
			for _, f := range []pump.Family{{Kind: 2, X: "a", Y: "aa", P: p, Q: p}, {Kind: 1, X: "a", Y: "a", P: p, Q: p ^ 1}} {
				Of(a, f)
				Attack(a, f, 10)
			}
		}
	}
}

// What is answered is new, and is the same each time.
func TestAnswersAreNew(t *testing.T) {
	a := parsed(t, "(a|a)*|(aaa)*b", core.Full)
	first, _ := Attack(a, wild(2), 10)
	for range 3 {
		l := Of(a, wild(2))
		if !slices.Equal(l, []int{0, 1, 2, 3, 4}) {
			t.Errorf("Of: %v", l)
		}
		for i := range l[:cap(l)] {
			l[:cap(l)][i] = 99
		}
		if w, e := Attack(a, wild(2), 10); w != first || e != api.OK {
			t.Errorf("Attack: %q, %d, not %q", w, e, first)
		}
	}
}

// Great ones are done in time.
func TestGreat(t *testing.T) {
	// the last 13 bytes, by whether they are a
	a := parsed(t, every+"*(a"+every+"{12})?", core.Full)
	for budget, e := range map[int]api.Errno{0: api.ErrFull, 1: api.ErrFull, 1000: api.ErrFull, 1<<13 - 1: api.ErrFull, 1 << 13: api.ErrNone, math.MaxInt: api.ErrNone} {
		if w, got := Find(a, []int{0}, budget); w != "" || got != e {
			t.Errorf("Find, %d: %q, %d, not %d", budget, w, got, e)
		}
	}
	// the sets behind all numbers of pumps are far more than the positions
	p := "(a|a)*"
	for _, n := range []string{"2", "3", "5", "7", "11", "13", "17", "19", "23", "29", "31", "37", "41", "43", "47"} {
		p += "|(a{" + n + "})*"
	}
	a = parsed(t, p, core.Full)
	if l := Of(a, wild(2)); len(l) != a.Places()-1 || slices.Contains(l, 3) { // the second one of two a
		t.Errorf("Of: %d positions, of %d", len(l), a.Places())
	}
	if w, e := Attack(a, wild(2), 2); w != "\x00" || e != api.OK {
		t.Errorf("Attack: %q, %d", w, e)
	}
	// positions of more than one byte's number are told apart
	a = parsed(t, "a{255}b{256}(a|a)*c", core.Full)
	f := pump.Family{Kind: 2, X: strings.Repeat("a", 255) + strings.Repeat("b", 256) + "a", Y: "aa", P: 512, Q: 512}
	if l := Of(a, f); !slices.Equal(l, []int{511, 512}) {
		t.Errorf("Of: %v", l)
	}
	a = parsed(t, every+"{1,600}", core.Full)
	if w, e := Find(a, []int{0}, 600); w != "" || e != api.ErrFull {
		t.Errorf("Find: %d bytes, %d", len(w), e)
	}
	if w, e := Find(a, []int{0}, 601); w != strings.Repeat("\x00", 600) || e != api.OK {
		t.Errorf("Find: %d bytes, %d", len(w), e)
	}
	word := strings.Repeat("a", 1<<20)
	if b := parsed(t, "a*", core.Full); Stops(b, []int{0}, word) || !Stops(b, []int{0}, word+"b") {
		t.Errorf("Stops of a long tail")
	}
}
