package vector

import (
	"math"
	"slices"
	"strings"
	"testing"

	"caltrop/api"
	"caltrop/auto"
	"caltrop/bytes"
	"caltrop/core"
	"caltrop/nat"
)

// emptySet is a set that has no byte.
const emptySet = "[^\\x00-\\xff]"

// parsed is the automaton of a pattern.
func parsed(t *testing.T, p string, mode int) *auto.Auto {
	t.Helper()
	a, _, e := auto.Parse(p, mode)
	if e != api.OK {
		t.Fatalf("Parse(%.60q): %d", p, e)
	}
	return a
}

// vectorsOf is all vectors of an automaton.
func vectorsOf(t *testing.T, what string, a *auto.Auto, budget int) *Vectors {
	t.Helper()
	x, e := New(a, budget)
	if x == nil || e != api.OK {
		t.Fatalf("New of %.60s, %d: %v, %d", what, budget, x, e)
	}
	return x
}

// of is all vectors of a pattern, if these aren't too many.
func of(t *testing.T, p string, mode int) *Vectors {
	t.Helper()
	return vectorsOf(t, p, parsed(t, p, mode), 1<<20)
}

// A met vector is told by its word, and its numbers.
type met struct {
	word string
	v    []int
}

// holdVectors holds the vectors of a pattern against those that there are.
func holdVectors(t *testing.T, p string, mode int, most int, word string, list ...met) {
	t.Helper()
	x := of(t, p, mode)
	if x.Count() != len(list) || x.Most() != most || x.Word() != word {
		t.Errorf("%s: Count %d, Most %d, Word %q, not %d, %d, %q", p, x.Count(), x.Most(), x.Word(), len(list), most, word)
	}
	for i, want := range list {
		if v, w, ok := x.At(i); !slices.Equal(v, want.v) || w != want.word || !ok {
			t.Errorf("%s: At(%d): %v, %q, %v, not %v, %q", p, i, v, w, ok, want.v, want.word)
		}
	}
}

// Where nothing is read there is no vector, and none of 0 alone is met.
func TestNone(t *testing.T) {
	for _, p := range []string{"", "(()|())", "(|)*", emptySet, emptySet + "a", "(" + emptySet + ")*"} {
		holdVectors(t, p, core.Full, 0, "")
	}
	holdVectors(t, "a|b"+emptySet+"c", core.Full, 1, "a", met{"a", []int{1, 0, 0, 0}}, met{"b", []int{0, 1, 0, 0}})
}

func TestVectors(t *testing.T) {
	holdVectors(t, "a", core.Full, 1, "a", met{"a", []int{1}})
	holdVectors(t, "a*", core.Full, 1, "a", met{"a", []int{1}})
	holdVectors(t, "aaa", core.Full, 1, "a", met{"a", []int{1, 0, 0}}, met{"aa", []int{0, 1, 0}}, met{"aaa", []int{0, 0, 1}})
	holdVectors(t, "a|a", core.Full, 2, "a", met{"a", []int{1, 1}})
	holdVectors(t, "(()|())a", core.Full, 2, "a", met{"a", []int{2}})
	holdVectors(t, "a(()|())b*(()|())b", core.Full, 6, "ab", met{"a", []int{1, 0, 0}}, met{"ab", []int{0, 2, 4}})
	holdVectors(t, "(ab|a)(bc|c)", core.Full, 2, "a",
		met{"a", []int{1, 0, 1, 0, 0, 0}}, met{"ab", []int{0, 1, 0, 1, 0, 0}},
		met{"ac", []int{0, 0, 0, 0, 0, 1}}, met{"abb", []int{0, 0, 0, 1, 0, 0}},
		met{"abc", []int{0, 0, 0, 0, 1, 1}}, met{"abbc", []int{0, 0, 0, 0, 1, 0}})
	holdVectors(t, "(a|b)*a(a|b)", core.Full, 3, "aa",
		met{"a", []int{1, 0, 1, 0, 0}}, met{"b", []int{0, 1, 0, 0, 0}},
		met{"aa", []int{1, 0, 1, 1, 0}}, met{"ab", []int{0, 1, 0, 0, 1}})
	holdVectors(t, "a", core.Prefix, 1, "a", met{"a", []int{1, 0}}, met{"a\x00", []int{0, 1}})
	holdVectors(t, "a", core.Suffix, 2, "a", met{"\x00", []int{1, 0}}, met{"a", []int{1, 1}})
}

func TestOrder(t *testing.T) {
	// by the bytes, not by the positions
	holdVectors(t, "b|a", core.Full, 1, "a", met{"a", []int{0, 1}}, met{"b", []int{1, 0}})
	holdVectors(t, "[b-z]|[a-c]", core.Full, 2, "b", met{"a", []int{0, 1}}, met{"b", []int{1, 1}}, met{"d", []int{1, 0}})
	// the least byte of a block may be one that the pattern doesn't name
	holdVectors(t, "[^a]", core.Full, 1, "\x00", met{"\x00", []int{1}})
	holdVectors(t, "\\xff|[^\\x00]", core.Full, 2, "\xff", met{"\x01", []int{0, 1}}, met{"\xff", []int{1, 1}})
	// short words first, and those of one length vector by vector
	holdVectors(t, "ba|ab", core.Full, 1, "a",
		met{"a", []int{0, 0, 1, 0}}, met{"b", []int{1, 0, 0, 0}},
		met{"ab", []int{0, 0, 0, 1}}, met{"ba", []int{0, 1, 0, 0}})
	holdVectors(t, "a(c|d)|b(a|b)", core.Full, 1, "a",
		met{"a", []int{1, 0, 0, 0, 0, 0}}, met{"b", []int{0, 0, 0, 1, 0, 0}},
		met{"ac", []int{0, 1, 0, 0, 0, 0}}, met{"ad", []int{0, 0, 1, 0, 0, 0}},
		met{"ba", []int{0, 0, 0, 0, 1, 0}}, met{"bb", []int{0, 0, 0, 0, 0, 1}})
	// the first one of the greatest sum, not the last one
	holdVectors(t, "a(b|b)|c(d|d)", core.Full, 2, "ab",
		met{"a", []int{1, 0, 0, 0, 0, 0}}, met{"c", []int{0, 0, 0, 1, 0, 0}},
		met{"ab", []int{0, 1, 1, 0, 0, 0}}, met{"cd", []int{0, 0, 0, 0, 1, 1}})
}

func TestExample(t *testing.T) {
	set := func(b byte) *core.Node { return &core.Node{Kind: core.Set, Set: bytes.Of(b)} }
	either := &core.Node{Kind: core.Alt, A: set('a'), B: set('b')}
	a, e := auto.New(&core.Node{Kind: core.Cat, A: either, B: set('c')})
	if e != api.OK {
		t.Fatalf("New: %d", e)
	}
	if x := vectorsOf(t, "(a|b)c", a, 3); x.Count() != 3 || x.Most() != 1 || x.Word() != "a" {
		t.Errorf("(a|b)c: %d vectors, %d, %q", x.Count(), x.Most(), x.Word())
	}
}

func TestErrors(t *testing.T) {
	a := parsed(t, "a", core.Full)
	for _, budget := range []int{0, 1, -1, math.MaxInt, math.MinInt} {
		if x, e := New(nil, budget); x != nil || e != api.ErrArg {
			t.Errorf("New(nil, %d): %v, %d", budget, x, e)
		}
	}
	for _, budget := range []int{-1, -2, math.MinInt} {
		for _, b := range []*auto.Auto{a, parsed(t, "", core.Full), parsed(t, "(a|a)*", core.Full)} {
			if x, e := New(b, budget); x != nil || e != api.ErrArg {
				t.Errorf("New with %d: %v, %d", budget, x, e)
			}
		}
	}
}

// A budget is enough just if there are no more vectors than it.
func TestBudgets(t *testing.T) {
	for p, count := range map[string]int{
		"": 0, emptySet: 0, "a": 1, "a|b": 2, "(ab|a)(bc|c)": 6, "(a|b)*a(a|b){3}": 16, "a{600}": 600, "[ab]*|[bc]*": 3,
	} {
		a := parsed(t, p, core.Full)
		for _, budget := range []int{0, 1, count - 1, count, count + 1, 1000, math.MaxInt - 1, math.MaxInt} {
			x, e := New(a, budget)
			switch {
			case 0 <= budget && budget < count && (x != nil || e != api.ErrFull):
				t.Errorf("New of %s, %d: %v, %d", p, budget, x, e)
			case budget >= count && (e != api.OK || x.Count() != count):
				t.Errorf("New of %s, %d: %d, %d", p, budget, x.Count(), e)
			}
		}
	}
	for _, p := range []string{"a*a*", ".*a.*", "(a|a)*", "(a|ab|b)*", "(a*)*"} {
		for _, budget := range []int{0, 1, 2, 10, 1000} {
			if x, e := New(parsed(t, p, core.Full), budget); x != nil || e != api.ErrFull {
				t.Errorf("New of %s, %d: %v, %d", p, budget, x, e)
			}
		}
	}
}

// Of a vector with the greatest number all of them are too many, whatever the budget.
func TestGreatestNumber(t *testing.T) {
	const half = 1 << 62
	for _, x := range []struct {
		pattern string
		most    int // 0 of what has the greatest number in it
	}{
		{"(|){62}a", half},
		{"(|){63}a", 0},
		{"(|){64}a", 0},
		{"(|){600}a", 0},
		{"b|(|){63}a", 0},
		{"b(|){63}a", 0},
		{"b(|){63}" + emptySet, 1}, // it isn't behind any word
		{"(|){40}a(|){22}b", half},
		{"(|){40}a(|){23}b", 0},
		{"(|){62}(a|a)", api.Most}, // the sum alone is that
		{"(|){62}(a|a|a|a)", api.Most},
		{"(|){61}(a|a)", half},
		{"(a|(|){62}a)b", half + 1},
		{"(a|a)*", 0},
		{"(a*)*b", 0},
	} {
		a := parsed(t, x.pattern, core.Full)
		y, e := New(a, math.MaxInt)
		switch {
		case x.most == 0 && (y != nil || e != api.ErrFull):
			t.Errorf("New of %s: %v, %d", x.pattern, y, e)
		case x.most > 0 && (e != api.OK || y.Most() != x.most):
			t.Errorf("New of %s: %d, %d", x.pattern, y.Most(), e)
		}
	}
}

// Numbers of all sizes are told as they are.
func TestGreatNumbers(t *testing.T) {
	for k := range 60 {
		p := "(|){" + digitsOf(k) + "}(a|(|)b|c(|){3}d)"
		x := of(t, p, core.Full)
		n := 1 << k
		for i, want := range []met{{"a", []int{n, 0, 0, 0}}, {"b", []int{0, 2 * n, 0, 0}}, {"c", []int{0, 0, n, 0}}, {"cd", []int{0, 0, 0, n * 8}}} {
			if v, w, ok := x.At(i); !slices.Equal(v, want.v) || w != want.word || !ok {
				t.Errorf("%s: At(%d): %v, %q, not %v", p, i, v, w, want.v)
			}
			if x.Greatest(i) != want.v[i] {
				t.Errorf("%s: Greatest(%d): %d, not %d", p, i, x.Greatest(i), want.v[i])
			}
		}
		if x.Most() != 8*n || x.Word() != "cd" {
			t.Errorf("%s: Most: %d, %q", p, x.Most(), x.Word())
		}
	}
	for _, n := range []int{100, 126, 127, 128, 129, 255, 256, 257} { // by so many twins
		p := "(" + strings.Repeat("()|", n-1) + "())a"
		if v, _, _ := of(t, p, core.Full).At(0); !slices.Equal(v, []int{n}) {
			t.Errorf("%.40s: At(0): %v, not %d", p, v, n)
		}
	}
}

// digitsOf tells a number below 100.
func digitsOf(n int) string {
	return strings.TrimPrefix(string([]byte{byte('0' + n/10), byte('0' + n%10)}), "0")
}

func TestGreatest(t *testing.T) {
	x := of(t, "a(()|())(b|()|())c|(a|b|c)d"+emptySet, core.Full)
	for p, want := range map[int]int{
		0: 1, 1: 2, 2: 4, 3: 1, 4: 1, 5: 1, 6: 1, 7: 0,
		-1: 0, 8: 0, 9: 0, math.MaxInt: 0, math.MinInt: 0,
	} {
		if n := x.Greatest(p); n != want {
			t.Errorf("Greatest(%d): %d, not %d", p, n, want)
		}
	}
	// each has its own in another vector
	x = of(t, "(a|a)(b|b)|(a|b)(a|b|b)", core.Full)
	var want [9]int
	for i := range x.Count() {
		v, _, _ := x.At(i)
		for p, n := range v {
			want[p] = max(want[p], n)
		}
	}
	for p, n := range want {
		if x.Greatest(p) != n || n == 0 {
			t.Errorf("Greatest(%d): %d, not %d", p, x.Greatest(p), n)
		}
	}
	if n := of(t, "", core.Full).Greatest(0); n != 0 {
		t.Errorf("Greatest of nothing: %d", n)
	}
}

func TestBound(t *testing.T) {
	x := of(t, "(a|a|a)b", core.Full)
	for n, want := range map[int]int{
		0: 0, 1: 3, 2: 6, 1000: 3000, -1: 0, math.MinInt: 0,
		api.Most / 3: api.Most - 1, api.Most/3 + 1: api.Most, api.Most: api.Most,
	} {
		if b := x.Bound(n); b != want {
			t.Errorf("Bound(%d): %d, not %d", n, b, want)
		}
	}
	x = of(t, "(|){62}(a|a)", core.Full)
	for n, want := range []int{0, api.Most, api.Most} {
		if b := x.Bound(n); b != want {
			t.Errorf("Bound(%d): %d, not %d", n, b, want)
		}
	}
	if n := of(t, "", core.Full).Bound(5); n != 0 {
		t.Errorf("Bound of nothing: %d", n)
	}
}

func TestNilVectors(t *testing.T) {
	var x *Vectors
	v, w, ok := x.At(0)
	if x.Count() != 0 || x.Most() != 0 || x.Word() != "" || v != nil || w != "" || ok || x.Greatest(0) != 0 || x.Bound(5) != 0 {
		t.Errorf("something of nil")
	}
}

// Of a place where no vector is nothing is told.
func TestNotThere(t *testing.T) {
	for _, p := range []string{"", "a|b"} {
		x := of(t, p, core.Full)
		for _, i := range []int{-1, x.Count(), x.Count() + 1, math.MaxInt, math.MinInt} {
			if v, w, ok := x.At(i); v != nil || w != "" || ok {
				t.Errorf("%s: At(%d): %v, %q, %v", p, i, v, w, ok)
			}
		}
	}
}

// One that wasn't made by New mustn't panic, nor one of what wasn't made by auto.
func TestNotMade(t *testing.T) {
	all := []*Vectors{{}, {Auto: parsed(t, "a", core.Full)}}
	less := parsed(t, "a|b|c", core.Full)
	less.Weights = parsed(t, "a", core.Full).Weights
	more := parsed(t, "a", core.Full)
	more.Weights = parsed(t, "a|b|c", core.Full).Weights
	without := parsed(t, "ab", core.Full)
	without.Weights = nil
	for _, a := range []*auto.Auto{{}, less, more, without} {
		if x, e := New(a, 10); e == api.OK {
			all = append(all, x)
		}
	}
	changed := of(t, "a|b", core.Full)
	changed.Auto = nil
	for _, x := range append(all, changed) {
		x.Count()
		x.Most()
		x.Word()
		x.At(0)
		x.Greatest(0)
		x.Greatest(2)
		x.Bound(2)
	}
}

// The automaton's calls are those of its vectors, too.
func TestAutomaton(t *testing.T) {
	x := of(t, "(a|b)*a(a|b)", core.Full)
	if v, w, _ := x.At(2); !slices.Equal(x.Vector(w), v) || x.Places() != 5 || x.Hits("aa") != 5 {
		t.Errorf("another automaton")
	}
}

// What is answered is new, and is the same each time.
func TestAnswersAreNew(t *testing.T) {
	const pattern = "(a|b|ab)(a|ba|b)"
	a := parsed(t, pattern, core.Full)
	x := vectorsOf(t, pattern, a, 100)
	for range 3 {
		again := vectorsOf(t, pattern, a, 1000)
		if x.Count() != again.Count() || x.Most() != again.Most() || x.Word() != again.Word() {
			t.Fatalf("another time: %d vectors, %d, %q", again.Count(), again.Most(), again.Word())
		}
		for i := range x.Count() {
			v, w, _ := x.At(i)
			if !slices.Equal(v, a.Vector(w)) {
				t.Errorf("At(%d): %v, %q", i, v, w)
			}
			if v2, w2, ok := again.At(i); !slices.Equal(v, v2) || w != w2 || !ok {
				t.Errorf("another time: At(%d): %v, %q", i, v2, w2)
			}
			for p := range v[:cap(v)] {
				v[:cap(v)][p] = 99
			}
		}
		for p := range a.Places() {
			if x.Greatest(p) != again.Greatest(p) || x.Greatest(p) > 2 {
				t.Errorf("Greatest(%d): %d", p, x.Greatest(p))
			}
		}
	}
}

// Great ones are done in time.
func TestGreat(t *testing.T) {
	for _, x := range []struct {
		pattern     string
		count, most int
		long        int // the last one's word
	}{
		{"(a|b)*a(a|b){15}", 1 << 16, 17, 16},
		{"(a{2})*|(a{3})*|(a{5})*|(a{7})*|(a{11})*|(a{13})*", 30030, 6, 30030},
		{"(a{300}|b{299})*c", 600, 1, 300},
		{"[\\x00-\\xff]*", 1, 1, 1},
		{"a*(" + strings.Repeat("b|", 598) + "b)", 2, 599, 1},
	} {
		y := of(t, x.pattern, core.Full)
		_, w, ok := y.At(x.count - 1)
		if y.Count() != x.count || y.Most() != x.most || len(w) != x.long || !ok {
			t.Errorf("%.40s: %d vectors, %d, the last one by %d bytes", x.pattern, y.Count(), y.Most(), len(w))
		}
	}
	if x, e := New(parsed(t, "a*a*", core.Full), 100000); x != nil || e != api.ErrFull {
		t.Errorf("New of a*a*: %v, %d", x, e)
	}
	all := ""
	for b := range 256 {
		all += "|\\x" + string([]byte{"0123456789abcdef"[b/16], "0123456789abcdef"[b%16]})
	}
	x := of(t, "("+all[1:]+")*(a|b)", core.Full)
	if v, w, _ := x.At(255); x.Count() != 256 || x.Most() != 2 || x.Word() != "a" || w != "\xff" || v[255] != 1 || nat.Sum(v) != 1 {
		t.Errorf("all bytes: %d vectors, %d, %q", x.Count(), x.Most(), x.Word())
	}
}
