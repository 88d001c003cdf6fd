package weigh

import (
	"math"
	"slices"
	"strings"
	"testing"

	"caltrop/api"
	"caltrop/bytes"
	"caltrop/core"
)

// parse is a pattern's core.
func parse(t *testing.T, p string, mode int) *core.Node {
	t.Helper()
	c, at, e := core.Parse(p, mode)
	if e != api.OK {
		t.Fatalf("core.Parse(%.60q, %d): %d, %d", p, mode, at, e)
	}
	return c
}

// weigh is the weights of a core.
func weigh(t *testing.T, c *core.Node) *Weights {
	t.Helper()
	w, e := New(c)
	if w == nil || e != api.OK {
		t.Fatalf("New of %.60s: %d", core.Text(c), e)
	}
	return w
}

// of is a Set of some bytes.
func of(l ...byte) *core.Node {
	return &core.Node{Kind: core.Set, Set: bytes.Of(l...)}
}

func two(kind int, a, b *core.Node) *core.Node {
	return &core.Node{Kind: kind, A: a, B: b}
}

// cats is the Cat of several.
func cats(l ...*core.Node) *core.Node {
	if len(l) == 1 {
		return l[0]
	}
	return two(core.Cat, l[0], cats(l[1:]...))
}

func star(c *core.Node) *core.Node {
	return &core.Node{Kind: core.Star, A: c}
}

func empty() *core.Node {
	return &core.Node{Kind: core.Empty}
}

// nothing is what may be nothing in so many ways, 1 at least.
func nothing(ways int) *core.Node {
	switch {
	case ways == 1:
		return empty()
	case ways%2 == 0:
		return two(core.Cat, two(core.Alt, empty(), empty()), nothing(ways/2))
	}
	return two(core.Alt, nothing(ways-1), empty())
}

// twins is a core in which one node stands at as many places as 2 to the n.
func twins(kind, n int, c *core.Node) *core.Node {
	for range n {
		c = two(kind, c, c)
	}
	return c
}

// P9.1: positions and sets

func TestPlaces(t *testing.T) {
	for p, want := range map[string]string{
		"": "", "()": "", "a{0}": "", "()*": "", "(|)": "",
		"a": "a", "abc": "abc", "(a|b)*c": "abc", "a|(b|c)d": "abcd", "a{3}": "aaa", "a{1,3}": "aaa", "a+b": "aab", "a??b{2,}?": "abbb",
		"(ab){2}c": "ababc", "(a|b){2,3}": "ababab", "a(b(c(d)))a": "abcda",
	} {
		w := weigh(t, parse(t, p, core.Full))
		if w.Places() != len(want) {
			t.Errorf("Places of %q: %d", p, w.Places())
		}
		for i := range want {
			if w.Set(i) != bytes.Of(want[i]) {
				t.Errorf("Set(%d) of %q: %x", i, p, w.Set(i))
			}
		}
		if len(w.First()) != len(want) || len(w.Last()) != len(want) {
			t.Errorf("First and Last of %q: %v, %v", p, w.First(), w.Last())
		}
	}
}

func TestSetsOfPlaces(t *testing.T) {
	w := weigh(t, parse(t, `[^\x00-\xff]\d|.`, core.Search))
	want := []api.Set{bytes.All(), {}, bytes.Range('0', '9'), bytes.Not(bytes.Of(10)), bytes.All()}
	if w.Places() != len(want) {
		t.Fatalf("Places: %d", w.Places())
	}
	for i, s := range want {
		if w.Set(i) != s {
			t.Errorf("Set(%d): %x", i, w.Set(i))
		}
	}
}

func TestOfNone(t *testing.T) {
	for _, c := range []*core.Node{empty(), of('a'), parse(t, "(ab)*c", core.Search)} {
		w := weigh(t, c)
		for _, p := range []int{-1, math.MinInt, w.Places(), w.Places() + 1, math.MaxInt} {
			if w.Set(p) != (api.Set{}) || len(w.Follow(p)) != 0 {
				t.Errorf("of position %d of %d there is something", p, w.Places())
			}
		}
	}
}

func TestOfNil(t *testing.T) {
	var w *Weights
	if w.Places() != 0 || w.Void() != 0 || w.Edges() != 0 || len(w.First()) != 0 || len(w.Last()) != 0 || len(w.Heavy()) != 0 {
		t.Error("of nil weights there is something")
	}
	for _, p := range []int{-1, 0, 1, math.MaxInt, math.MinInt} {
		if w.Set(p) != (api.Set{}) || len(w.Follow(p)) != 0 {
			t.Errorf("of position %d of nil weights there is something", p)
		}
	}
}

// P9.1: numbers

// A told is what the weights of a pattern are.
type told struct {
	void        int
	first, last []int
	follow      [][]int
	edges       int
	heavy       []int
}

func TestWeights(t *testing.T) {
	type table [][]int
	for p, want := range map[string]told{
		"":            {1, nil, nil, nil, 0, nil},
		"|":           {2, nil, nil, nil, 0, nil},
		"(|)(||)":     {6, nil, nil, nil, 0, nil},
		"(|)*":        {1, nil, nil, nil, 0, nil},
		"a":           {0, []int{1}, []int{1}, table{{0}}, 0, nil},
		"ab":          {0, []int{1, 0}, []int{0, 1}, table{{0, 1}, {0, 0}}, 1, nil},
		"a|b":         {0, []int{1, 1}, []int{1, 1}, table{{0, 0}, {0, 0}}, 0, nil},
		"a?":          {1, []int{1}, []int{1}, table{{0}}, 0, nil},
		"a|||":        {3, []int{1}, []int{1}, table{{0}}, 0, nil},
		"a*":          {1, []int{1}, []int{1}, table{{1}}, 1, nil},
		"a*?":         {1, []int{1}, []int{1}, table{{1}}, 1, nil},
		"(a*)*":       {1, []int{1}, []int{1}, table{{2}}, 1, []int{0}}, // the document's example
		"((a*)*?)*":   {1, []int{1}, []int{1}, table{{3}}, 1, []int{0}},
		"(a|)*":       {1, []int{1}, []int{1}, table{{1}}, 1, nil},
		"a+":          {0, []int{1, 0}, []int{1, 1}, table{{0, 1}, {0, 1}}, 2, nil},
		"a?b":         {0, []int{1, 1}, []int{0, 1}, table{{0, 1}, {0, 0}}, 1, nil},
		"ab?":         {0, []int{1, 0}, []int{1, 1}, table{{0, 1}, {0, 0}}, 1, nil},
		"a?b?":        {1, []int{1, 1}, []int{1, 1}, table{{0, 1}, {0, 0}}, 1, nil},
		"a(|)b":       {0, []int{1, 0}, []int{0, 1}, table{{0, 2}, {0, 0}}, 1, []int{0}},
		"(|)a":        {0, []int{2}, []int{1}, table{{0}}, 0, nil},
		"a(|)":        {0, []int{1}, []int{2}, table{{0}}, 0, nil},
		"((|)a(||))*": {1, []int{2}, []int{3}, table{{6}}, 1, []int{0}},
		"(a?b?)*":     {1, []int{1, 1}, []int{1, 1}, table{{1, 2}, {1, 1}}, 4, []int{0}},
		"(a||)(b|)c":  {0, []int{1, 2, 2}, []int{0, 0, 1}, table{{0, 1, 1}, {0, 0, 1}, {0, 0, 0}}, 3, nil},
		"(a|b|)(c|)":  {1, []int{1, 1, 1}, []int{1, 1, 1}, table{{0, 0, 1}, {0, 0, 1}, {0, 0, 0}}, 2, nil},
		"a(b||)(|c)":  {0, []int{1, 0, 0}, []int{2, 1, 1}, table{{0, 1, 2}, {0, 0, 1}, {0, 0, 0}}, 3, []int{0}},
		"a{2,3}":      {0, []int{1, 0, 0}, []int{0, 1, 1}, table{{0, 1, 0}, {0, 0, 1}, {0, 0, 0}}, 2, nil},
		"(a|b)*a":     {0, []int{1, 1, 1}, []int{0, 0, 1}, table{{1, 1, 1}, {1, 1, 1}, {0, 0, 0}}, 6, nil},
		"(a*b*)*":     {1, []int{1, 1}, []int{1, 1}, table{{2, 2}, {1, 2}}, 4, []int{0, 1}},
		"(ab)*(cd)*":  {1, []int{1, 0, 1, 0}, []int{0, 1, 0, 1}, table{{0, 1, 0, 0}, {1, 0, 1, 0}, {0, 0, 0, 1}, {0, 0, 1, 0}}, 5, nil},
		"a(|)(b|cd*)": {0, []int{1, 0, 0, 0}, []int{0, 1, 1, 1}, table{{0, 2, 2, 0}, {0, 0, 0, 0}, {0, 0, 0, 1}, {0, 0, 0, 1}}, 4, []int{0}},
		"b|a(|)a(|)a": {0, []int{1, 1, 0, 0}, []int{1, 0, 0, 1}, table{{0, 0, 0, 0}, {0, 0, 2, 0}, {0, 0, 0, 2}, {0, 0, 0, 0}}, 2, []int{1, 2}},
	} {
		hold(t, p, weigh(t, parse(t, p, core.Full)), want)
	}
}

// hold holds weights against what they are.
func hold(t *testing.T, of string, w *Weights, want told) {
	t.Helper()
	if w.Places() != len(want.follow) || w.Void() != want.void || w.Edges() != want.edges {
		t.Errorf("%s: Places %d, Void %d, Edges %d; wanted %d, %d, %d", of, w.Places(), w.Void(), w.Edges(), len(want.follow), want.void, want.edges)
	}
	if !slices.Equal(w.First(), want.first) || !slices.Equal(w.Last(), want.last) || !slices.Equal(w.Heavy(), want.heavy) {
		t.Errorf("%s: First %v, Last %v, Heavy %v; wanted %v, %v, %v", of, w.First(), w.Last(), w.Heavy(), want.first, want.last, want.heavy)
	}
	for p, row := range want.follow {
		if !slices.Equal(w.Follow(p), row) {
			t.Errorf("%s: Follow(%d) %v; wanted %v", of, p, w.Follow(p), row)
		}
	}
}

func TestModes(t *testing.T) {
	type table [][]int
	for mode, want := range []told{
		core.Full:   {1, []int{1}, []int{1}, table{{1}}, 1, nil},
		core.Prefix: {1, []int{1, 1}, []int{1, 1}, table{{1, 1}, {0, 1}}, 3, nil},
		core.Suffix: {1, []int{1, 1}, []int{1, 1}, table{{1, 1}, {0, 1}}, 3, nil},
		core.Search: {1, []int{1, 1, 1}, []int{1, 1, 1}, table{{1, 1, 1}, {0, 1, 1}, {0, 0, 1}}, 6, nil},
	} {
		hold(t, "a*", weigh(t, parse(t, "a*", mode)), want)
	}
}

// Numbers end at the greatest, not ahead of it.
func TestGreatNumbers(t *testing.T) {
	for _, n := range []int{1, 2, 3, 1000, 1<<31 - 1, 1 << 62, api.Most - 1, api.Most} {
		more := n + min(n, api.Most-n) // twice as many
		w := weigh(t, cats(nothing(n), of('a'), nothing(n), of('b'), nothing(n)))
		if f, l := w.First(), w.Last(); w.Void() != 0 || f[0] != n || f[1] != 0 || l[0] != 0 || l[1] != n || w.Follow(0)[1] != n {
			t.Errorf("of %d: %v, %v, %v", n, f, l, w.Follow(0))
		}
		if w := weigh(t, nothing(n)); w.Void() != n {
			t.Errorf("Void: %d; wanted %d", w.Void(), n)
		}
		if w := weigh(t, two(core.Alt, nothing(n), nothing(n))); w.Void() != more {
			t.Errorf("Void: %d; wanted %d", w.Void(), more)
		}
		loop := star(two(core.Cat, nothing(n), of('a')))
		if w := weigh(t, loop); w.Void() != 1 || w.Follow(0)[0] != n || w.Last()[0] != 1 {
			t.Errorf("Follow: %v; wanted %d", w.Follow(0), n)
		}
		if w := weigh(t, star(loop)); w.Follow(0)[0] != more || w.First()[0] != n {
			t.Errorf("Follow: %v; wanted %d", w.Follow(0), more)
		}
		twice := cats(of('a'), two(core.Alt, nothing(n), nothing(n)), of('b'))
		if w := weigh(t, twice); w.Follow(0)[1] != more || w.Edges() != 1 || slices.Contains(w.Heavy(), 0) != (more > 1) {
			t.Errorf("Follow: %v; wanted %d", w.Follow(0), more)
		}
	}
	for places, want := range map[int]int{62: 1 << 62, 63: api.Most, 64: api.Most, 1000: api.Most} {
		w := weigh(t, two(core.Cat, of('a'), two(core.Cat, parse(t, "(|){"+number(places)+"}", core.Full), of('b'))))
		if w.Follow(0)[1] != want {
			t.Errorf("Follow over %d: %d", places, w.Follow(0)[1])
		}
	}
	// what is the greatest, no times, is nothing
	w := weigh(t, cats(of('a'), nothing(api.Most), of('b'), nothing(api.Most), of('c')))
	if w.Follow(0)[2] != 0 || w.First()[2] != 0 || w.Last()[0] != 0 {
		t.Errorf("Follow: %v", w.Follow(0))
	}
}

// number is a number from 0 on, in tens.
func number(n int) string {
	if n < 10 {
		return string(rune('0' + n))
	}
	return number(n/10) + string(rune('0'+n%10))
}

// P9.1: errors

func TestErrors(t *testing.T) {
	if w, e := New(nil); w != nil || e != api.ErrArg {
		t.Errorf("New(nil): %d", e)
	}
	for _, c := range []struct {
		p    string
		mode int
		e    api.Errno
	}{
		{"a{600}", core.Full, api.OK}, {"a{601}", core.Full, api.ErrLong},
		{"a{599}", core.Prefix, api.OK}, {"a{600}", core.Prefix, api.ErrLong},
		{"a{599}", core.Suffix, api.OK}, {"a{600}", core.Suffix, api.ErrLong},
		{"a{598}", core.Search, api.OK}, {"a{599}", core.Search, api.ErrLong},
		{"(a|b){300}", core.Full, api.OK}, {"(a|b){300}c", core.Full, api.ErrLong},
		{"a{599,}", core.Full, api.OK}, {"a{600,}", core.Full, api.ErrLong},
		{"(a{600})*", core.Full, api.OK}, {"(a{601})?", core.Full, api.ErrLong},
		{"a{0,600}", core.Full, api.OK}, {"a{0,601}", core.Full, api.ErrLong},
		{`[^\x00-\xff]{601}`, core.Full, api.ErrLong},
		{"(){1000}a(|){300}", core.Full, api.OK}, // nodes that are no Sets don't count
		{"a{1000}", core.Full, api.ErrLong},
	} {
		w, e := New(parse(t, c.p, c.mode))
		if e != c.e || (w == nil) != (e != api.OK) {
			t.Errorf("New of %q by mode %d: %d; wanted %d", c.p, c.mode, e, c.e)
		}
	}
}

// A node that stands in several places has positions of its own in each.
func TestSharedNodes(t *testing.T) {
	a := of('a')
	type table [][]int
	hold(t, "a, twice", weigh(t, two(core.Cat, a, a)), told{0, []int{1, 0}, []int{0, 1}, table{{0, 1}, {0, 0}}, 1, nil})
	s := star(a)
	hold(t, "a star, twice", weigh(t, two(core.Cat, s, s)), told{1, []int{1, 1}, []int{1, 1}, table{{1, 1}, {0, 1}}, 3, nil})
	hold(t, "a star, and another way", weigh(t, two(core.Alt, a, star(two(core.Cat, a, a)))), told{1, []int{1, 1, 0}, []int{1, 0, 1}, table{{0, 0, 0}, {0, 0, 1}, {0, 1, 0}}, 2, nil})
	w := weigh(t, twins(core.Cat, 9, a))
	if w.Places() != 512 || w.Edges() != 511 || w.Follow(100)[101] != 1 {
		t.Errorf("of 512 places: %d, %d", w.Places(), w.Edges())
	}
	w = weigh(t, two(core.Alt, twins(core.Alt, 9, a), twins(core.Alt, 6, star(a))))
	if w.Places() != 576 || w.Edges() != 64 || w.Void() != 64 {
		t.Errorf("of 576 places: %d, %d, %d", w.Places(), w.Edges(), w.Void())
	}
}

// Of nodes at more places than can be gone through it is told all the same.
func TestManyPlaces(t *testing.T) {
	for _, n := range []int{10, 62, 64, 100, 1000} {
		for _, kind := range []int{core.Cat, core.Alt} {
			if w, e := New(twins(kind, n, of('a'))); w != nil || e != api.ErrLong {
				t.Errorf("New of 2^%d positions: %d", n, e)
			}
			if w, e := New(two(core.Cat, empty(), star(twins(kind, n, star(of('a')))))); w != nil || e != api.ErrLong {
				t.Errorf("New of 2^%d positions: %d", n, e)
			}
		}
		none := twins(core.Alt, n, empty())
		want := api.Most
		if n < 63 {
			want = 1 << n
		}
		w := weigh(t, cats(none, of('a'), none, of('b'), none))
		if w.Places() != 2 || w.First()[0] != want || w.Last()[1] != want || w.Follow(0)[1] != want {
			t.Errorf("of 2^%d times nothing: %v, %v", n, w.First(), w.Follow(0))
		}
		if w := weigh(t, twins(core.Cat, n, empty())); w.Void() != 1 || w.Places() != 0 {
			t.Errorf("of 2^%d times nothing: %d", n, w.Void())
		}
	}
}

func TestDeepCores(t *testing.T) {
	const deep = 1 << 16
	stars, left, right, ways := of('a'), of('a'), of('a'), of('a')
	for range deep {
		stars, left, right, ways = star(stars), two(core.Cat, left, empty()), two(core.Cat, empty(), right), two(core.Alt, ways, empty())
	}
	if w := weigh(t, stars); w.Follow(0)[0] != deep || w.Void() != 1 || w.Places() != 1 || !slices.Equal(w.Heavy(), []int{0}) {
		t.Errorf("of deep Stars: %v", w.Follow(0))
	}
	for _, c := range []*core.Node{left, right} {
		if w := weigh(t, star(c)); w.Places() != 1 || w.Follow(0)[0] != 1 || w.First()[0] != 1 || w.Last()[0] != 1 {
			t.Errorf("of deep Cats: %v", w.Follow(0))
		}
	}
	if w := weigh(t, cats(of('b'), ways, of('c'))); w.Places() != 3 || !slices.Equal(w.Follow(0), []int{0, 1, deep}) {
		t.Errorf("of deep Alts: %v", w.Follow(0))
	}
}

// The greatest cores are told in time.
func TestGreatCores(t *testing.T) {
	all := "a" + strings.Repeat("|a", api.MaxPlaces-1)
	c := parse(t, all, core.Full)
	for range 2000 {
		c = star(c)
	}
	w := weigh(t, c)
	if w.Edges() != api.MaxPlaces*api.MaxPlaces || len(w.Heavy()) != api.MaxPlaces || slices.Min(w.Follow(599)) != 2000 || slices.Max(w.Follow(0)) != 2000 {
		t.Errorf("Edges: %d", w.Edges())
	}
	w = weigh(t, parse(t, "((a*){600})*", core.Full))
	for p := range api.MaxPlaces {
		for q, n := range w.Follow(p) {
			// through the inner star, to one further on, and through the outer star
			want := 1
			if q >= p {
				want = 2
			}
			if n != want {
				t.Fatalf("Follow(%d) of %d: %d; wanted %d", p, q, n, want)
			}
		}
	}
	if w.Edges() != api.MaxPlaces*api.MaxPlaces || len(w.Heavy()) != api.MaxPlaces {
		t.Errorf("Edges: %d", w.Edges())
	}
}

func TestCoresThatArentRight(t *testing.T) {
	round := two(core.Cat, of('a'), nil)
	round.B = round
	loop := star(nil)
	loop.A = two(core.Alt, empty(), star(loop))
	self := star(nil)
	self.A = self
	for i, c := range []*core.Node{
		{Kind: -1}, {Kind: 5}, {Kind: math.MaxInt}, {Kind: math.MinInt}, star(nil), two(core.Cat, nil, nil), two(core.Cat, of('a'), nil), two(core.Alt, nil, of('a')), two(core.Alt, &core.Node{Kind: 7}, of('a')),
		round, loop, self, star(round), two(core.Cat, empty(), loop), two(core.Alt, self, self),
	} {
		if w, e := New(c); w != nil || e == api.OK {
			t.Errorf("%d: New of what is no core: %d", i, e)
		}
	}
	// what a kind hasn't isn't looked at
	for _, c := range []*core.Node{{Kind: core.Set, Set: bytes.Of('a'), A: round, B: of('b')}, {Kind: core.Set, Set: bytes.Of('a'), Lazy: true}} {
		if w := weigh(t, c); w.Places() != 1 || w.Edges() != 0 {
			t.Errorf("of a Set with others: %d places", w.Places())
		}
	}
	if w := weigh(t, &core.Node{Kind: core.Star, A: of('a'), B: round}); w.Places() != 1 || w.Follow(0)[0] != 1 {
		t.Error("of a Star with another")
	}
}

// What is answered is new memory.
func TestAnswersAreNew(t *testing.T) {
	const p = "((a|b*)*c?){2}|"
	c, again := parse(t, p, core.Search), parse(t, p, core.Search)
	w := weigh(t, c)
	if !core.Same(c, again) {
		t.Error("New changes the core")
	}
	var lists [][]int
	for p := range w.Places() {
		lists = append(lists, w.Follow(p))
	}
	lists = append(lists, w.First(), w.Last(), w.Heavy())
	for _, l := range lists {
		l = append(l, 77)
		for i := range l {
			l[i] = -5
		}
	}
	check(t, w, again)
	other := weigh(t, again)
	for p := range w.Places() {
		if !slices.Equal(w.Follow(p), other.Follow(p)) {
			t.Errorf("Follow(%d): %v, another time %v", p, w.Follow(p), other.Follow(p))
		}
	}
}
