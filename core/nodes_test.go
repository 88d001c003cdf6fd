package core

import (
	"math"
	"slices"
	"strings"
	"testing"

	"caltrop/api"
	"caltrop/bytes"
)

// P8.2

func TestText(t *testing.T) {
	a, b, none := of('a'), of('b'), &Node{}
	for want, c := range map[string]*Node{
		"()":                          none,
		"a":                           a,
		"[a-b]":                       of('a', 'b'),
		".":                           {Kind: Set, Set: bytes.Not(bytes.Of(10))},
		`[^\x00-\xff]`:                {Kind: Set},
		`\(`:                          of('('),
		`\x00`:                        of(0),
		"(ab)":                        two(Cat, a, b),
		"(a|b)":                       two(Alt, a, b),
		"(()|a)":                      two(Alt, none, a),
		"(a())":                       two(Cat, a, none),
		"{a}":                         star(a),
		"{a}?":                        lazily(a),
		"{()}":                        star(none),
		"{{a}?}":                      star(lazily(a)),
		"{{a}}?":                      lazily(star(a)),
		"((ab)a)":                     two(Cat, two(Cat, a, b), a),
		"(a(ba))":                     two(Cat, a, two(Cat, b, a)),
		"(a|(b|()))":                  two(Alt, a, two(Alt, b, none)),
		`({[\x00-\xff]}?({(a|b)}\|))`: two(Cat, lazily(&Node{Kind: Set, Set: bytes.All()}), two(Cat, star(two(Alt, a, b)), of('|'))),
	} {
		if got := Text(c); got != want {
			t.Errorf("Text: %s; wanted %s", got, want)
		}
	}
}

func TestSize(t *testing.T) {
	a, none := of('a'), &Node{}
	for i, c := range []*Node{nil, a, star(a), two(Cat, a, none), star(two(Alt, none, a)), two(Alt, two(Cat, a, a), none), two(Cat, star(a), two(Alt, a, none))} {
		if Size(c) != i {
			t.Errorf("Size of %s: %d; wanted %d", Text(c), Size(c), i)
		}
	}
	if Size(none) != 1 {
		t.Errorf("Size of Empty: %d", Size(none))
	}
	if shared := two(Cat, a, a); Size(two(Alt, shared, shared)) != 7 {
		t.Error("Size isn't that of a tree")
	}
}

func TestSets(t *testing.T) {
	for p, want := range map[string]string{"": "", "a": "a", "(b|)(ca)*?a": "bcaa", "(a|b){2}": "abab", "a{0}b": "b", "a{1,3}": "aaa", "b+a??": "bba", "(c(b|a)){2,3}": "cbacbacba", "()*": ""} {
		var got []byte
		for _, s := range Sets(must(t, p, Full)) {
			b, _ := bytes.First(s)
			got = append(got, b)
			if bytes.Count(s) != 1 {
				t.Errorf("Sets of %q: %x", p, s)
			}
		}
		if string(got) != want {
			t.Errorf("Sets of %q: %s; wanted %s", p, got, want)
		}
	}
	l := Sets(must(t, `[^\x00-\xff]\d`, Search))
	if !slices.Equal(l, []api.Set{bytes.All(), {}, bytes.Range('0', '9'), bytes.All()}) {
		t.Errorf("Sets: %x", l)
	}
	c := must(t, "ab", Full)
	Sets(c)[0] = bytes.All()
	if !slices.Equal(Sets(c), []api.Set{bytes.Of('a'), bytes.Of('b')}) || Text(c) != "(ab)" {
		t.Error("a list that was answered is kept")
	}
}

func TestNil(t *testing.T) {
	if Size(nil) != 0 || len(Sets(nil)) != 0 || Text(nil) != "" || Measure(nil, Full) != 0 {
		t.Error("of nil there is something")
	}
	if !Same(nil, nil) || Same(nil, &Node{}) || Same(&Node{}, nil) {
		t.Error("nil is another one than nil, or the same as Empty")
	}
}

func TestSame(t *testing.T) {
	a, b, none := of('a'), of('b'), &Node{}
	l := []*Node{nil, none, a, b, of('a', 'b'), {Kind: Set}, two(Cat, a, b), two(Cat, b, a), two(Alt, a, b), two(Alt, b, a), two(Cat, a, a), star(a), star(b), lazily(a), star(star(a)), lazily(star(a)), star(lazily(a)), star(none), two(Cat, two(Cat, a, b), a), two(Cat, a, two(Cat, b, a)), two(Cat, a, two(Cat, b, b)), two(Alt, a, none), two(Alt, none, a), two(Cat, star(a), b), two(Cat, lazily(a), b)}
	for i, x := range l {
		for j, y := range l {
			if Same(x, y) != (i == j) {
				t.Errorf("Same of %s and %s: %v", Text(x), Text(y), i != j)
			}
			if Same(x, clone(y)) != (i == j) {
				t.Errorf("Same of %s and another %s: %v", Text(x), Text(y), i != j)
			}
		}
	}
	for p, q := range map[string]string{"a{2}": "aa", "a{1,}": "a+", "(a)": "a", "(?:a|b)c": "(a|b)c", "a?": "a|", "a??": "|a", "a{3}": "a(aa)", "a{2,3}": "a(aa?)", "a{0,2}?": "|aa??", "a{0}": ""} {
		if !Same(must(t, p, Full), must(t, q, Full)) {
			t.Errorf("%q and %q aren't the same", p, q)
		}
	}
	if shared := star(of('c')); Same(two(Cat, a, two(Cat, shared, shared)), two(Cat, b, two(Cat, shared, shared))) || Same(two(Cat, two(Cat, shared, shared), a), two(Cat, two(Cat, shared, shared), b)) {
		t.Error("what stands beside a shared node isn't looked at")
	}
}

// clone is the same core, of other nodes.
func clone(c *Node) *Node {
	if c == nil {
		return nil
	}
	return &Node{c.Kind, c.Set, c.Lazy, clone(c.A), clone(c.B)}
}

// twins is a core in which a few nodes stand at as many places as 2 to the n.
func twins(kind, n int) *Node {
	all := of('a')
	for range n {
		all = two(kind, all, all)
	}
	return all
}

func TestSharedCores(t *testing.T) {
	c := twins(Cat, 10)
	if Size(c) != 2047 || len(Sets(c)) != 1024 || len(Text(c)) != 1024+2*1023 || !Same(c, clone(c)) || Same(c, clone(twins(Alt, 10))) {
		t.Errorf("of shared nodes: size %d, %d sets", Size(c), len(Sets(c)))
	}
	for n, want := range map[int]int{61: 1<<62 - 1, 62: api.Most, 63: api.Most, 1000: api.Most} {
		c := twins(Alt, n)
		if Size(c) != want || !Same(c, twins(Alt, n)) || Same(c, twins(Alt, n-1)) || Same(c, twins(Cat, n)) || Same(two(Cat, c, of('a')), two(Cat, twins(Alt, n), of('b'))) {
			t.Errorf("of 2^%d places: size %d", n, Size(c))
		}
		if len(Sets(c)) != 0 || Text(c) != "" {
			t.Error("of more places than can be gone through something is told")
		}
	}
}

func TestDeepCores(t *testing.T) {
	const deep = 1 << 17
	stars, left, right := of('a'), of('a'), of('a')
	otherStars, otherLeft, otherRight := of('b'), of('b'), of('b')
	a := of('a')
	for range deep {
		stars, left, right = lazily(stars), two(Cat, left, a), two(Alt, a, right)
		otherStars, otherLeft, otherRight = lazily(otherStars), two(Cat, otherLeft, a), two(Alt, a, otherRight)
	}
	if Size(stars) != deep+1 || len(Sets(stars)) != 1 || Text(stars) != strings.Repeat("{", deep)+"a"+strings.Repeat("}?", deep) {
		t.Error("of deep Stars")
	}
	if Size(left) != 2*deep+1 || len(Sets(left)) != deep+1 || Text(left) != strings.Repeat("(", deep)+"a"+strings.Repeat("a)", deep) {
		t.Error("of deep Cats")
	}
	if Size(right) != 2*deep+1 || len(Sets(right)) != deep+1 || Text(right) != strings.Repeat("(a|", deep)+"a"+strings.Repeat(")", deep) {
		t.Error("of deep Alts")
	}
	if Same(stars, otherStars) || Same(left, otherLeft) || Same(right, otherRight) {
		t.Error("deep cores are the same as others")
	}
}

func TestCoresThatArentRight(t *testing.T) {
	round := two(Cat, of('a'), nil)
	round.B = round
	loop := star(nil)
	loop.A = lazily(loop)
	for _, c := range []*Node{
		{Kind: -1}, {Kind: 5}, {Kind: math.MaxInt}, two(Cat, nil, nil), two(Alt, of('a'), nil), two(Alt, nil, of('a')), star(nil), lazily(nil), {Kind: Empty, A: of('a')}, {Kind: Set, Set: bytes.Of('a'), Lazy: true, B: of('b')}, {Kind: 9, A: twins(9, 100)}, {Kind: Star, A: of('a'), B: of('b')},
		round, loop, star(round), two(Cat, &Node{}, loop),
	} {
		// that these end, and don't panic, is all that can be asked
		Size(c)
		Sets(c)
		Text(c)
		Same(c, round)
		Same(loop, c)
		if !Same(c, c) {
			t.Error("a core isn't the same as itself")
		}
	}
	if Size(round) != 0 || len(Sets(round)) != 0 || Text(round) != "" || Size(loop) != 0 || Text(star(loop)) != "" {
		t.Error("of what stands within itself something is told")
	}
}

func TestCoresAreLeft(t *testing.T) {
	for mode := range modes {
		c, again := must(t, "(a|b*?){2,3}c", mode), must(t, "(a|b*?){2,3}c", mode)
		was := clone(c)
		Size(c)
		Sets(c)
		Text(c)
		Same(c, again)
		if !Same(c, was) || !Same(again, was) {
			t.Error("a core was changed")
		}
	}
}
