package verdict

import (
	"math"
	"strings"
	"testing"

	"caltrop/api"
	"caltrop/core"
)

// emptySet is a set that has no byte.
const emptySet = "[^\\x00-\\xff]"

// every is a set of all bytes.
const every = "[\\x00-\\xff]"

// as is the letter a, so many times.
func as(n int) string {
	return strings.Repeat("a", n)
}

func TestKinds(t *testing.T) {
	if Unknown != 3 {
		t.Errorf("Unknown: %d", Unknown)
	}
}

// holdRecord holds a verdict.
func holdRecord(t *testing.T, p string, mode, budget int, want Record) {
	t.Helper()
	if r := Analyse(p, mode, budget); r != want {
		t.Errorf("Analyse(%.60q, %d, %d): %+v, not %+v", p, mode, budget, r, want)
	}
}

func TestRecords(t *testing.T) {
	for _, x := range []struct {
		pattern string
		r       Record
	}{
		{"(a*)*b", Record{Kind: 2, X: "a", Y: "a", Stops: true, Places: 2, Live: 2, Pairs: 2}},
		{"(a*)*", Record{Kind: 2, X: "a", Y: "a", Z: "\x00", Stops: true, Places: 1, Live: 1, Pairs: 1}},
		{"(" + every + "*)*", Record{Kind: 2, X: "\x00", Y: "\x00", Places: 1, Live: 1, Pairs: 1}}, // no tail stops it
		{"a*a*", Record{Kind: 1, Degree: 1, X: "a", Y: "a", Z: "\x00", Stops: true, Places: 2, Live: 2, Pairs: 4, Triples: 4}},
		{"a*a*b", Record{Kind: 1, Degree: 1, X: "a", Y: "a", Stops: true, Places: 3, Live: 3, Pairs: 5, Triples: 5}},
		{"a*a*a*c", Record{Kind: 1, Degree: 2, X: "a", Y: "a", Stops: true, Places: 4, Live: 4, Pairs: 10, Triples: 34}},
		{"", Record{}},
		{"a", Record{Most: 1, Places: 1, Live: 1, Pairs: 1, Vectors: 1}},
		{"ab", Record{Most: 1, Places: 2, Live: 2, Pairs: 2, Vectors: 2}},
		{"a{2,3}", Record{Most: 1, Places: 3, Live: 3, Pairs: 3, Vectors: 3}},
		{"a|a", Record{Most: 2, Places: 2, Live: 2, Pairs: 2, Vectors: 1}},
		{"a*b*", Record{Most: 1, Places: 2, Live: 2, Pairs: 2, Vectors: 2}},
		{"(ab|a)(bc|c)", Record{Most: 2, Places: 6, Live: 6, Pairs: 6, Vectors: 6}},
		{emptySet, Record{Places: 1}}, // what can't be reached isn't live
		{"a" + emptySet + "(b*)*", Record{Most: 1, Places: 3, Live: 1, Pairs: 1, Vectors: 1}},
		{"(a*)*b" + emptySet + "b", Record{Kind: 2, X: "a", Y: "a", Stops: true, Places: 4, Live: 2, Pairs: 2}},
		{"(()|()){62}a", Record{Most: 1 << 62, Places: 1, Live: 1, Pairs: 1, Vectors: 1}},
		{"(()|()){62}(a|a)", Record{Most: api.Most, Places: 2, Live: 2, Pairs: 2, Vectors: 1}},
	} {
		for _, budget := range []int{100, 1000, math.MaxInt} {
			holdRecord(t, x.pattern, core.Full, budget, x.r)
		}
	}
}

func TestModes(t *testing.T) {
	for _, x := range []struct {
		pattern string
		kinds   [4]int // by the modes
		degrees [4]int
	}{
		{"a", [4]int{0, 0, 0, 1}, [4]int{0, 0, 0, 1}},
		{"a*", [4]int{0, 1, 1, 1}, [4]int{0, 1, 1, 2}},
		{"a*a*", [4]int{1, 1, 1, 1}, [4]int{1, 2, 2, 3}},
		{"(a*)*", [4]int{2, 2, 2, 2}, [4]int{}},
		{"(a|b)*a(a|b)*", [4]int{1, 1, 1, 1}, [4]int{1, 2, 2, 3}},
	} {
		for mode, kind := range x.kinds {
			r := Analyse(x.pattern, mode, 5000)
			if r.Err != api.OK || r.Kind != kind || r.Degree != x.degrees[mode] {
				t.Errorf("Analyse(%q, %d): %+v, not of kind %d, degree %d", x.pattern, mode, r, kind, x.degrees[mode])
			}
		}
	}
}

// An error, and its place, are all that a record tells then, whatever the budget.
func TestErrors(t *testing.T) {
	for _, x := range []struct {
		pattern string
		mode    int
		e       api.Errno
		at      int
	}{
		{"a", -1, api.ErrArg, 0},
		{"a", 4, api.ErrArg, 0},
		{"a{3,2}", math.MaxInt, api.ErrArg, 0},
		{"a{3,2}", math.MinInt, api.ErrArg, 0},
		{"(?=a)", core.Full, api.ErrOther, 0},
		{"(?!a)", core.Search, api.ErrOther, 0},
		{"ab(?=a)", core.Full, api.ErrOther, 2},
		{"a{3,2}", core.Full, api.ErrValue, 4},
		{"a{1001}", core.Full, api.ErrValue, 2},
		{"a**", core.Full, api.ErrForm, 2},
		{"(a", core.Prefix, api.ErrForm, 2},
		{"a)", core.Suffix, api.ErrForm, 1},
		{as(api.MaxText + 1), core.Full, api.ErrLong, 0},
		{strings.Repeat("(", 201) + strings.Repeat(")", 201), core.Full, api.ErrLong, 200},
		{"(a{100}){100}", core.Full, api.ErrLong, 0}, // of a core
		{"a{601}", core.Full, api.ErrLong, 0},        // of weights
		{"a{61}", core.Full, api.ErrLong, 0},         // of a square
		{"(a*)*b{60}", core.Full, api.ErrLong, 0},
		{"a{25}", core.Full, api.ErrLong, 0}, // of a cube
		{"a{24}", core.Prefix, api.ErrLong, 0},
		{"a*a*b{23}", core.Full, api.ErrLong, 0},
		{"a{25}" + emptySet + "(b|b)*", core.Full, api.ErrLong, 0},
	} {
		for _, budget := range []int{0, 1, 5000, math.MaxInt} {
			holdRecord(t, x.pattern, x.mode, budget, Record{Err: x.e, At: x.at})
		}
		for _, budget := range []int{-1, math.MinInt} { // what is named first
			holdRecord(t, x.pattern, x.mode, budget, Record{Err: api.ErrArg})
		}
		if n, ok := Need(x.pattern, x.mode); n != 0 || ok {
			t.Errorf("Need(%.60q, %d): %d, %v", x.pattern, x.mode, n, ok)
		}
	}
	for _, p := range []string{"", "a", "a*a*", "(a*)*"} {
		for _, budget := range []int{-1, -1000, math.MinInt} {
			holdRecord(t, p, core.Full, budget, Record{Err: api.ErrArg})
		}
	}
}

// Where a position splits, no cube is asked for: so its error is none, and there may
// be as many live positions as a square has.
func TestNoCube(t *testing.T) {
	for _, p := range []string{"(a*)*b{23}", "(a*)*b{24}", "(a*)*b{59}", "b{59}(a*)*", "(a|a)*" + emptySet + "a{500}"} {
		r := Analyse(p, core.Full, 5000)
		if r.Err != api.OK || r.Kind != 2 || r.Y == "" || !r.Stops || r.Triples != 0 {
			t.Errorf("Analyse(%s): %+v", p, r)
		}
	}
	for _, p := range []string{"a{24}", "a*a*b{22}", "a{24}" + emptySet + "(b|b)*"} {
		if r := Analyse(p, core.Full, 5000); r.Err != api.OK || r.Kind > 1 {
			t.Errorf("Analyse(%s): %+v", p, r)
		}
	}
}

// flat is a pattern that has 4999 vectors, and one more of each byte that is put
// behind it. These are more than the pairs, and the triples.
const flat = "[ab]*[bc][abc]a+[ac]a?[ab][ac][ac]b?[bc][abc][ab]?[abc][ac]*|[de]*[df][df][df]?[ef]*|"

func TestBudget(t *testing.T) {
	for _, x := range []struct {
		pattern string
		need    int
		r       Record // by any budget below the need
	}{
		{"ab", 2, Record{Kind: 3, Places: 2, Live: 2, Pairs: 2}},                     // pairs, and as many vectors
		{"(a*)*b", 2, Record{Kind: 3, Places: 2, Live: 2, Pairs: 2}},                 // pairs alone
		{"a*a*a*c", 34, Record{Kind: 3, Places: 4, Live: 4, Pairs: 10, Triples: 34}}, // triples
		{"(aa)*", 4, Record{Kind: 3, Places: 2, Live: 2, Pairs: 2, Triples: 4}},      // triples of what is flat
		{"[ab]*a[ab]{5}", 64, Record{Kind: 3, Places: 7, Live: 7, Pairs: 49}},        // vectors
		{"(a{4})*(a{2})*(a{4})*|b*b*", 5000, Record{Kind: 3, Places: 12, Live: 12, Pairs: 50, Triples: 5000}},
	} {
		for _, budget := range []int{0, 1, x.need / 2, x.need - 1} {
			holdRecord(t, x.pattern, core.Full, budget, x.r)
		}
		for _, budget := range []int{x.need, x.need + 1, 2 * x.need, math.MaxInt} {
			if r := Analyse(x.pattern, core.Full, budget); r.Err != api.OK || r.Kind == Unknown {
				t.Errorf("Analyse(%s, %d): %+v", x.pattern, budget, r)
			}
		}
		if n, ok := Need(x.pattern, core.Full); n != x.need || !ok {
			t.Errorf("Need(%s): %d, %v, not %d", x.pattern, n, ok, x.need)
		}
	}
	// of nothing
	holdRecord(t, "", core.Full, 0, Record{})
	holdRecord(t, emptySet, core.Full, 0, Record{Places: 1})
}

// With a budget that does for the kind a tail may take more: then it isn't told.
func TestLateTail(t *testing.T) {
	r := Record{Kind: 2, X: "a", Y: "a", Places: 1, Live: 1, Pairs: 1}
	holdRecord(t, "(a*)*", core.Full, 1, r)
	r.Z, r.Stops = "\x00", true
	for _, budget := range []int{2, 3, math.MaxInt} {
		holdRecord(t, "(a*)*", core.Full, budget, r)
	}
	// it is meant, but where the ninth byte from the end is b: so 257 sets are met ahead
	// of one in which there is nothing that may be the last one
	const p = "(x*)*" + every + "*[^b]" + every + "{8}"
	holdRecord(t, p, core.Full, 120, Record{Kind: 3, Places: 11, Live: 11, Pairs: 121})
	r = Record{Kind: 2, X: "x", Y: "x", Places: 11, Live: 11, Pairs: 121}
	holdRecord(t, p, core.Full, 121, r)
	holdRecord(t, p, core.Full, 257, r)
	r.Z, r.Stops = "b\x00\x00\x00\x00\x00\x00\x00\x00", true
	holdRecord(t, p, core.Full, 258, r)
	holdRecord(t, p, core.Full, 5000, r)
}

func TestNeed(t *testing.T) {
	for _, x := range []struct {
		pattern string
		mode    int
		need    int
		ok      bool
	}{
		{"", core.Full, 0, true},
		{emptySet, core.Full, 0, true},
		{"a", core.Full, 1, true},
		{"ab", core.Full, 2, true},
		{"(a*)*", core.Full, 1, true},
		{"(" + strings.Repeat("a|", 59) + "a)*", core.Full, 3600, true},
		{"(a{4})*(a{2})*(a{4})*|b*b*", core.Full, 5000, true},
		{"a*a*(a{3})*|b*b*(b{4})*|(c{3})*(c{3})*(c{2})*", core.Full, 0, false}, // 5001 triples
		{flat + "g", core.Full, 5000, true},
		{flat + "gg", core.Full, 0, false},
		{strings.Repeat("a*", 24), core.Full, 0, false},
		{"[ab]*a[ab]{20}", core.Full, 0, false},
		{"(()|()){62}a", core.Full, 1, true},
		{"(()|()){63}a", core.Full, 0, false}, // it has no budget by which it is known
		{"a", -1, 0, false},
		{"a", 4, 0, false},
		{"(a", core.Full, 0, false},
		{"a{61}", core.Full, 0, false},
	} {
		if n, ok := Need(x.pattern, x.mode); n != x.need || ok != x.ok {
			t.Errorf("Need(%.60q, %d): %d, %v, not %d, %v", x.pattern, x.mode, n, ok, x.need, x.ok)
		}
		if !x.ok {
			continue
		}
		if r := Analyse(x.pattern, x.mode, x.need); r.Err != api.OK || r.Kind == Unknown {
			t.Errorf("Analyse(%.60q, %d, %d): %+v", x.pattern, x.mode, x.need, r)
		}
		if r := Analyse(x.pattern, x.mode, x.need-1); x.need > 0 && r.Kind != Unknown {
			t.Errorf("Analyse(%.60q, %d, %d): %+v", x.pattern, x.mode, x.need-1, r)
		}
	}
}

// What has the greatest number in a vector has no bound that could be told.
func TestGreatestNumber(t *testing.T) {
	for _, budget := range []int{1, 2, 5000, math.MaxInt} {
		holdRecord(t, "(()|()){63}a", core.Full, budget, Record{Kind: 3, Places: 1, Live: 1, Pairs: 1})
	}
}

// Above the greatest need there are verdicts still.
func TestAboveNeed(t *testing.T) {
	for _, x := range []struct {
		pattern string
		need    int
		kind    int
	}{
		{flat + "gg", 5001, 0},
		{"a*a*(a{3})*|b*b*(b{4})*|(c{3})*(c{3})*(c{2})*", 5001, 1},
		{strings.Repeat("a*", 12), 44000, 1},
	} {
		if r := Analyse(x.pattern, core.Full, 5000); r.Err != api.OK || r.Kind != Unknown {
			t.Errorf("Analyse(%.60q, 5000): %+v", x.pattern, r)
		}
		if r := Analyse(x.pattern, core.Full, x.need); r.Err != api.OK || r.Kind != x.kind {
			t.Errorf("Analyse(%.60q, %d): %+v", x.pattern, x.need, r)
		}
	}
}

// without are records that have no family.
func without() []Record {
	whole := Record{Kind: 2, X: "a", Y: "b", Z: "c", Stops: true, Places: 2, Live: 2, Pairs: 2}
	var l []Record
	for _, kind := range []int{0, 3, 4, -1, math.MaxInt, math.MinInt} {
		r := whole
		r.Kind = kind
		l = append(l, r)
	}
	for _, e := range []api.Errno{api.ErrArg, api.ErrLong, api.ErrState, -1, 11} {
		r := whole
		r.Err = e
		l = append(l, r)
	}
	r := whole
	r.Y = ""
	return append(l, r, Record{}, Record{Kind: 1}, Record{Kind: 2})
}

func TestWithout(t *testing.T) {
	for _, r := range without() {
		for _, k := range []int{0, 1, 3, -1, math.MaxInt, math.MinInt} {
			if w, e := Words(r, k); w != "" || e != api.ErrNone {
				t.Errorf("Words(%+v, %d): %q, %d", r, k, w, e)
			}
			if n := Floor(r, k); n != 0 {
				t.Errorf("Floor(%+v, %d): %d", r, k, n)
			}
		}
	}
}

func TestWords(t *testing.T) {
	const far = api.MaxText
	for _, x := range []struct {
		r    Record
		k    int
		word string
		e    api.Errno
	}{
		{Record{Kind: 2, X: "x", Y: "yz", Z: "t", Stops: true}, 0, "xt", api.OK},
		{Record{Kind: 2, X: "x", Y: "yz", Z: "t", Stops: true}, 1, "xyzt", api.OK},
		{Record{Kind: 1, X: "x", Y: "yz", Z: "t", Stops: true}, 3, "xyzyzyzt", api.OK},
		{Record{Kind: 1, X: "x", Y: "yz", Stops: true}, 2, "xyzyz", api.OK},
		{Record{Kind: 2, X: "x", Y: "yz"}, 2, "xyzyz", api.OK}, // without a tail
		{Record{Kind: 2, Y: "yz", Z: "\x00", Stops: true}, 2, "yzyz\x00", api.OK},
		{Record{Kind: 2, At: 5, Degree: -1, Most: 9, X: "x", Y: "y", Pairs: -7}, 1, "xy", api.OK}, // what else it has is no matter
		{Record{Kind: 2, X: "x", Y: "y", Z: "z", Stops: true}, -1, "", api.ErrArg},
		{Record{Kind: 1, X: "x", Y: "y", Z: "z", Stops: true}, math.MinInt, "", api.ErrArg},
		{Record{Kind: 2, X: "x", Y: "y", Z: as(far)}, -1, "", api.ErrArg},
		{Record{Kind: 2, X: "x", Y: "y", Z: "z", Stops: true}, math.MaxInt, "", api.ErrLong},
		{Record{Kind: 2, X: "a", Y: "a", Z: "a", Stops: true}, far - 2, as(far), api.OK},
		{Record{Kind: 2, X: "a", Y: "a", Z: "a", Stops: true}, far - 1, "", api.ErrLong},
		{Record{Kind: 2, X: "a", Y: "a", Z: as(far - 1), Stops: true}, 0, as(far), api.OK},
		{Record{Kind: 2, X: "a", Y: "a", Z: as(far - 1), Stops: true}, 1, "", api.ErrLong},
	} {
		if w, e := Words(x.r, x.k); w != x.word || e != x.e {
			t.Errorf("Words(%d, %.20q, %.20q, %.20q, %d): %d bytes, %d, not %d, %d", x.r.Kind, x.r.X, x.r.Y, x.r.Z, x.k, len(w), e, len(x.word), x.e)
		}
	}
}

func TestFloor(t *testing.T) {
	for _, x := range []struct{ kind, k, floor int }{
		{2, 0, 1}, {2, 3, 8}, {2, 62, 1 << 62}, {2, 63, api.Most}, {2, math.MaxInt, api.Most}, {2, -1, 0}, {2, math.MinInt, 0},
		{1, 0, 0}, {1, 1, 1}, {1, 3, 6}, {1, 1000, 500500}, {1, math.MaxInt, api.Most}, {1, -1, 0}, {1, math.MinInt, 0},
	} {
		for _, r := range []Record{{Kind: x.kind, Y: "y"}, {Kind: x.kind, X: "a", Y: "ab", Z: "z", Stops: true, Pairs: 2}} {
			if n := Floor(r, x.k); n != x.floor {
				t.Errorf("Floor(%+v, %d): %d, not %d", r, x.k, n, x.floor)
			}
		}
	}
}

// What is told doesn't hang on what was asked before, nor on the budget but for
// whether it is told.
func TestTellsTheSame(t *testing.T) {
	for _, p := range []string{"(a*)*b", "a*a*", "x(ab|a[bc]|cb)*(a|b)*", "(ab|a)(bc|c)", "a{3,2}", "a*b?a*"} {
		first := Analyse(p, core.Full, 1000)
		need, _ := Need(p, core.Full)
		for range 3 {
			holdRecord(t, p, core.Full, 1000, first)
			if n, _ := Need(p, core.Full); n != need {
				t.Errorf("Need(%s): %d, and then %d", p, need, n)
			}
		}
		for budget := range 300 {
			r := Analyse(p, core.Full, budget)
			if r.Kind != Unknown {
				r.Z, r.Stops = first.Z, first.Stops
			}
			if r.Kind != Unknown && r != first || (r.Kind == Unknown) != (budget < need) {
				t.Errorf("Analyse(%s, %d): %+v, but %+v, of the need %d", p, budget, r, first, need)
			}
		}
	}
}

// The greatest ones are done in time.
func TestGreat(t *testing.T) {
	for _, x := range []struct {
		pattern string
		budget  int
		kind    int
	}{
		{"(" + strings.Repeat("a|", 59) + "a)*", 3600, 2},
		{"(a{29}|a{31})*", 3600, 2},
		{"(a*)*[ab]*a[ab]{50}", 3600, 2},
		{"(a|a)*" + emptySet + "a{590}", 3600, 2},
		{strings.Repeat("a*", 24), math.MaxInt, 1},
		{"(a{5})*(a{7})*(a{11})*", math.MaxInt, 1},
		{"[ab]*a[ab]{12}", math.MaxInt, 0},
		{"[ab]*a[ab]{20}", 10000, 3},
		{"[a-x]{24}", 10000, 0},
	} {
		if r := Analyse(x.pattern, core.Full, x.budget); r.Err != api.OK || r.Kind != x.kind {
			t.Errorf("Analyse(%.60q, %d): %+v", x.pattern, x.budget, r)
		}
	}
}
