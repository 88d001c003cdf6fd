package member

import (
	"slices"
	"strings"
	"testing"

	"caltrop/api"
	"caltrop/auto"
	"caltrop/core"
)

// parse is a pattern's automaton.
func parse(t *testing.T, p string, mode int) *auto.Auto {
	t.Helper()
	a, at, e := auto.Parse(p, mode)
	if e != api.OK {
		t.Fatalf("auto.Parse(%.60q, %d): %d, %d", p, mode, at, e)
	}
	return a
}

// same tells of a list that isn't the one that is asked for.
func same[T comparable](t *testing.T, what string, got, want []T) {
	t.Helper()
	if !slices.Equal(got, want) {
		t.Errorf("%s: %v, not %v", what, got, want)
	}
}

// empty is a set of nothing, as a pattern tells it.
const empty = "[^\\x00-\\xff]"

func TestMeans(t *testing.T) {
	a64 := strings.Repeat("a", 64)
	for _, x := range []struct {
		pattern string
		mode    int
		word    string
		want    bool
	}{
		{"ab|a", core.Full, "a", true},
		{"ab|a", core.Full, "ab", true},
		{"ab|a", core.Full, "abb", false},
		{"ab|a", core.Full, "b", false},
		{"ab|a", core.Full, "", false},
		{"", core.Full, "", true},
		{"", core.Full, "a", false},
		{"a*", core.Full, "", true},
		{"a+", core.Full, "", false},
		{"a", core.Prefix, "axyz", true},
		{"a", core.Prefix, "xa", false},
		{"a", core.Suffix, "xa", true},
		{"a", core.Suffix, "ax", false},
		{"a", core.Search, "xax", true},
		{"a", core.Search, "xyz", false},
		{empty, core.Full, "", false},
		{empty, core.Search, "a", false},
		{"(a|a)*b", core.Full, a64 + "b", true},
		{"(a|a)*b", core.Full, a64, false},
		{"(a|a)*b", core.Full, a64 + "bb", false},
	} {
		if got := Means(parse(t, x.pattern, x.mode), x.word); got != x.want {
			t.Errorf("Means(%s, %q): %v", x.pattern, x.word, got)
		}
	}
}

func TestAlive(t *testing.T) {
	a := parse(t, "ab*c|[ab]*x", core.Full)
	for _, x := range []struct {
		word string
		want []int
	}{
		{"", nil},
		{"a", []int{0, 3}},
		{"ab", []int{1, 3}},
		{"abb", []int{1, 3}},
		{"abbc", []int{2}},
		{"b", []int{3}},
		{"x", []int{4}},
		{"c", nil},
		{"xa", nil},
		{"xab", nil},
	} {
		same(t, "Alive of "+x.word, Alive(a, x.word), x.want)
	}
	same(t, "Alive", Alive(parse(t, "(a|a)*b", core.Full), strings.Repeat("a", 80)+"b"), []int{2})
	same(t, "Alive", Alive(parse(t, "", core.Full), "a"), nil)
}

func TestNext(t *testing.T) {
	a := parse(t, "ab*c|[ab]*x", core.Full)
	for _, x := range []struct {
		l    []int
		b    byte
		want []int
	}{
		{[]int{0}, 'b', []int{1}},
		{[]int{0, 3}, 'b', []int{1, 3}},
		{[]int{3, 0}, 'b', []int{1, 3}},
		{[]int{3, 1, 0, 3, 3}, 'b', []int{1, 3}},
		{[]int{0, 1, 2, 3, 4}, 'c', []int{2}},
		{[]int{0, 1, 2, 3, 4}, 'a', []int{3}},
		{[]int{0, 1, 2, 3, 4}, 'z', nil},
		{[]int{2, 4}, 'b', nil},
		{nil, 'a', nil},
		{[]int{-1, 5, 1 << 40, -1 << 62, api.Most, 0}, 'b', []int{1}}, // what is no position
		{[]int{-1, 5}, 'a', nil},
	} {
		given := slices.Clone(x.l)
		same(t, "Next", Next(a, given, x.b), x.want)
		same(t, "what was handed in", given, x.l)
	}
	same(t, "Next", Next(parse(t, "", core.Full), []int{0, 1}, 'a'), nil)
}

func TestEnds(t *testing.T) {
	a := parse(t, "ab?|c", core.Full)
	for _, x := range []struct {
		l    []int
		want bool
	}{
		{[]int{0}, true},
		{[]int{1}, true},
		{[]int{2, 2}, true},
		{[]int{-1, 3, api.Most, -api.Most, 1}, true},
		{[]int{-1, 3, api.Most, -api.Most}, false},
		{nil, false},
	} {
		if got := Ends(a, x.l); got != x.want {
			t.Errorf("Ends(%v): %v", x.l, got)
		}
	}
	b := parse(t, "abc*d", core.Full)
	for p, want := range []bool{false, false, false, true} {
		if Ends(b, []int{p}) != want {
			t.Errorf("Ends of %d", p)
		}
	}
	if Ends(b, []int{0, 1, 2}) || !Ends(b, []int{0, 3, 1}) || Ends(parse(t, "", core.Full), []int{0}) {
		t.Errorf("Ends of several")
	}
}

func TestBeginnings(t *testing.T) {
	for _, x := range []struct {
		pattern string
		mode    int
		word    string
		want    []bool
	}{
		{"ab|a", core.Full, "ab", []bool{false, true, true}},
		{"ab|a", core.Full, "", []bool{false}},
		{"(ab)*", core.Full, "ababb", []bool{true, false, true, false, true, false}},
		{"", core.Full, "ab", []bool{true, false, false}},
		{"", core.Full, "", []bool{true}},
		{"b", core.Search, "abc", []bool{false, false, true, true}},
		{"b", core.Suffix, "abcb", []bool{false, false, true, false, true}},
		{empty, core.Full, "a", []bool{false, false}},
		{"a", core.Full, "\xff\x00", []bool{false, false, false}},
	} {
		same(t, "Beginnings of "+x.pattern, Beginnings(parse(t, x.pattern, x.mode), x.word), x.want)
	}
}

func TestShortest(t *testing.T) {
	for _, x := range []struct {
		pattern string
		mode    int
		length  int
		ok      bool
	}{
		{"ab*c|x", core.Full, 1, true},
		{"ab*c|xyz", core.Full, 2, true},
		{"abc|b+c", core.Full, 2, true},
		{"a{3,5}", core.Full, 3, true},
		{"(a{7}|b{5}c*){2}", core.Full, 10, true},
		{"a|", core.Full, 0, true},
		{"", core.Full, 0, true},
		{"a", core.Search, 1, true},
		{empty, core.Full, 0, false},
		{empty, core.Search, 0, false},
		{"a" + empty + "b", core.Full, 0, false},
		{"a(" + empty + "|[^a])[b-c]|abcd", core.Full, 3, true},
		{empty + "|ab", core.Full, 2, true},
		{"x*" + empty, core.Full, 0, false},
		{empty + "*", core.Full, 0, true},
		{"a{600}", core.Full, 600, true},
	} {
		a := parse(t, x.pattern, x.mode)
		w, ok := Shortest(a)
		if len(w) != x.length || ok != x.ok || ok && !Means(a, w) {
			t.Errorf("Shortest(%s): %q, %v", x.pattern, w, ok)
		}
	}
}

func TestReached(t *testing.T) {
	for _, x := range []struct {
		pattern string
		mode    int
		want    []int
	}{
		{"", core.Full, nil},
		{"abc", core.Full, []int{0, 1, 2}},
		{"abc|d|ef", core.Full, []int{0, 1, 2, 3, 4, 5}},
		{"a" + empty + "b", core.Full, []int{0}},
		{empty + "b", core.Full, nil},
		{empty + "?b", core.Full, []int{1}},
		{"(a" + empty + "|b)*c", core.Full, []int{0, 2, 3}},
		{"a*b(" + empty + "c|d)", core.Full, []int{0, 1, 4}},
		{empty, core.Search, []int{0}},
		{"a", core.Search, []int{0, 1, 2}},
	} {
		same(t, "Reached of "+x.pattern, Reached(parse(t, x.pattern, x.mode)), x.want)
	}
}

func TestWithin(t *testing.T) {
	for _, x := range []struct {
		pattern  string
		word     string
		from, to int
		ok       bool
	}{
		{"ab*c|x", "zacx", 1, 3, true},
		{"ab|a", "xab", 1, 2, true},         // the shortest of those that begin there
		{"abcd|bc", "zabcd", 1, 5, true},    // it begins ahead, and ends later
		{"abcd|bc", "zabce", 2, 4, true},    // that ahead comes to nothing
		{"a.*z|b", "abbbbz", 0, 6, true},    // the other ones wait for it
		{"a.*z|b", "abbbb", 1, 2, true},     // and win at the end
		{"a.*z|b.*y|c", "abcy", 1, 4, true}, // one ahead wins over one found before
		{"a.*z|b.*y|c", "abc", 2, 3, true},
		{"a*", "bbb", 0, 0, true}, // the empty part
		{"a*", "", 0, 0, true},
		{"", "abc", 0, 0, true},
		{"a+", "bbaa", 2, 3, true},
		{"a+", "bbb", 0, 0, false},
		{"a", "", 0, 0, false},
		{empty, "abc", 0, 0, false},
		{"aa|b", "ab", 1, 2, true},
		{"aab", "aaab", 1, 4, true},
		{"[ab]{3}|b", "aab", 0, 3, true},
		{"\\xff\\x00", "\xff\xff\x00", 1, 3, true},
	} {
		from, to, ok := Within(parse(t, x.pattern, core.Full), x.word)
		if from != x.from || to != x.to || ok != x.ok {
			t.Errorf("Within(%s, %q): %d, %d, %v", x.pattern, x.word, from, to, ok)
		}
	}
	if from, to, ok := Within(parse(t, "b", core.Search), "aabaa"); from != 0 || to != 3 || !ok {
		t.Errorf("Within of a search: %d, %d, %v", from, to, ok)
	}
}

func TestNilAutomaton(t *testing.T) {
	if Means(nil, "") || Means(nil, "a") || Ends(nil, []int{0}) {
		t.Errorf("true of nil")
	}
	if Alive(nil, "a") != nil || Next(nil, []int{0}, 'a') != nil || Reached(nil) != nil || Beginnings(nil, "a") != nil {
		t.Errorf("a list of nil")
	}
	if w, ok := Shortest(nil); w != "" || ok {
		t.Errorf("Shortest of nil: %q, %v", w, ok)
	}
	if from, to, ok := Within(nil, "a"); from != 0 || to != 0 || ok {
		t.Errorf("Within of nil: %d, %d, %v", from, to, ok)
	}
}

// One that wasn't made by auto mustn't panic.
func TestNotMade(t *testing.T) {
	made := parse(t, "abc", core.Full)
	for _, a := range []*auto.Auto{{}, {Weights: made.Weights}} {
		Means(a, "a")
		Alive(a, "a")
		Next(a, []int{0, 1}, 'a')
		Ends(a, []int{0})
		Beginnings(a, "ab")
		Shortest(a)
		Reached(a)
		Within(a, "abc")
	}
	other := parse(t, "a", core.Full)
	other.Weights = made.Weights
	Beginnings(other, "abc")
	Next(other, []int{0, 1, 2}, 'a')
	made.Weights = parse(t, "a", core.Full).Weights
	Beginnings(made, "abc")
}

// Long words, and great automata, are done in time.
func TestLong(t *testing.T) {
	word := strings.Repeat("a", 1<<18)
	if from, to, ok := Within(parse(t, "a*b", core.Full), word); from != 0 || to != 0 || ok {
		t.Errorf("Within: %d, %d, %v", from, to, ok)
	}
	if from, to, ok := Within(parse(t, "a{1,300}b", core.Full), word[:5000]+"b"); from != 4700 || to != 5001 || !ok {
		t.Errorf("Within: %d, %d, %v", from, to, ok)
	}
	if from, to, ok := Within(parse(t, "a|(?:b?){598}c", core.Full), word); from != 0 || to != 1 || !ok {
		t.Errorf("Within: %d, %d, %v", from, to, ok)
	}
	a := parse(t, "(?:[ab]?){599}", core.Full)
	if l := Beginnings(a, word[:650]); l[599] != true || l[600] != false {
		t.Errorf("Beginnings: %v, %v", l[599], l[600])
	}
	if l := Reached(a); len(l) != 599 {
		t.Errorf("Reached: %d", len(l))
	}
	if !Means(parse(t, "a*", core.Full), word) {
		t.Errorf("Means")
	}
}
