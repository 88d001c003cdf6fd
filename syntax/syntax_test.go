package syntax

import (
	"math"
	"slices"
	"strings"
	"testing"

	"caltrop/api"
	"caltrop/bytes"
)

// must is a pattern's tree.
func must(t *testing.T, p string) *Node {
	t.Helper()
	n, at, e := Parse(p)
	if n == nil || at != 0 || e != api.OK {
		t.Fatalf("Parse(%.60q): %d, %d", p, at, e)
	}
	return n
}

// one is a node of a kind, of some others.
func one(kind int, l ...*Node) *Node {
	return &Node{Kind: kind, L: l}
}

// of is the set of some bytes.
func of(l ...byte) *Node {
	return &Node{Kind: Set, Set: bytes.Of(l...)}
}

// times is a Repeat.
func times(n *Node, least, most int) *Node {
	return &Node{Kind: Repeat, Min: least, Max: most, L: []*Node{n}}
}

// lazily is a lazy one.
func lazily(n *Node) *Node {
	n.Lazy = true
	return n
}

func TestKinds(t *testing.T) {
	if l := []int{Empty, Set, Group, Free, Cat, Alt, Repeat}; !slices.Equal(l, []int{0, 1, 2, 3, 4, 5, 6}) {
		t.Errorf("kinds: %v", l)
	}
}

// P6.1

func TestParse(t *testing.T) {
	a, b := of('a'), of('b')
	for p, want := range map[string]*Node{
		"":             one(Empty),
		"a":            a,
		"[ab]":         of('a', 'b'),
		"ab":           one(Cat, a, b),
		"aba":          one(Cat, a, b, a),
		"a|b":          one(Alt, a, b),
		"a|b|a":        one(Alt, a, b, a),
		"|":            one(Alt, one(Empty), one(Empty)),
		"a|":           one(Alt, a, one(Empty)),
		"||b":          one(Alt, one(Empty), one(Empty), b),
		"a|b*":         one(Alt, a, times(b, 0, -1)),
		"ab|b":         one(Alt, one(Cat, a, b), b),
		"()":           one(Group, one(Empty)),
		"(?:)":         one(Free, one(Empty)),
		"((a))":        one(Group, one(Group, a)),
		"(a|b)a":       one(Cat, one(Group, one(Alt, a, b)), a),
		"(?:ab)(b)":    one(Cat, one(Free, one(Cat, a, b)), one(Group, b)),
		"(|)":          one(Group, one(Alt, one(Empty), one(Empty))),
		"a*":           times(a, 0, -1),
		"a+":           times(a, 1, -1),
		"a?":           times(a, 0, 1),
		"a{2}":         times(a, 2, 2),
		"a{2,}":        times(a, 2, -1),
		"a{2,7}":       times(a, 2, 7),
		"a{0,0}":       times(a, 0, 0),
		"a{1000}":      times(a, 1000, 1000),
		"a??":          lazily(times(a, 0, 1)),
		"a{2,}?":       lazily(times(a, 2, -1)),
		"ab*":          one(Cat, a, times(b, 0, -1)),
		"(ab)*":        times(one(Group, one(Cat, a, b)), 0, -1),
		"(?:)+":        times(one(Free, one(Empty)), 1, -1),
		"(a*)*":        times(one(Group, times(a, 0, -1)), 0, -1),
		`\*`:           of('*'),
		`[^\x00-\xff]`: {Kind: Set},
	} {
		n := must(t, p)
		if !Same(n, want) || !Right(n) {
			t.Errorf("Parse(%q): %s; wanted %s", p, show(n), show(want))
		}
	}
}

func TestSpans(t *testing.T) {
	n := must(t, `x|(\x41|)(?:[b-d]*){2,3}?||`)
	for _, c := range []struct {
		n    *Node
		kind int
		span [2]int
	}{
		{n, Alt, [2]int{0, 27}},
		{n.L[0], Set, [2]int{0, 1}},
		{n.L[1], Cat, [2]int{2, 25}},
		{n.L[1].L[0], Group, [2]int{2, 9}},
		{n.L[1].L[0].L[0], Alt, [2]int{3, 8}},
		{n.L[1].L[0].L[0].L[0], Set, [2]int{3, 7}},
		{n.L[1].L[0].L[0].L[1], Empty, [2]int{8, 8}}, // where the close begins
		{n.L[1].L[1], Repeat, [2]int{9, 25}},
		{n.L[1].L[1].L[0], Free, [2]int{9, 19}},
		{n.L[1].L[1].L[0].L[0], Repeat, [2]int{12, 18}},
		{n.L[1].L[1].L[0].L[0].L[0], Set, [2]int{12, 17}},
		{n.L[2], Empty, [2]int{26, 26}}, // where the last bar begins
		{n.L[3], Empty, [2]int{27, 27}}, // the pattern's end
	} {
		if c.n.Kind != c.kind || c.n.Span != c.span {
			t.Errorf("kind %d at %v; wanted %d at %v", c.n.Kind, c.n.Span, c.kind, c.span)
		}
	}
	for p, want := range map[string]string{
		"":      "empty 0-0",
		"()":    "group 0-2 [empty 1-1]",
		"(?:)*": "repeat 0-5 from 0 to -1 [free 0-4 [empty 3-3]]",
		"|":     "alt 0-1 [empty 0-0] [empty 1-1]",
	} {
		if got := show(must(t, p)); got != want {
			t.Errorf("Parse(%q): %s; wanted %s", p, got, want)
		}
	}
}

func TestFaults(t *testing.T) {
	for _, c := range []struct {
		p  string
		at int
		e  api.Errno
	}{
		// a count with no item ahead of it
		{"*", 0, api.ErrForm}, {"{2}a", 0, api.ErrForm}, {"a|?", 2, api.ErrForm}, {"a|b||{3,}?", 5, api.ErrForm},
		{"(*)", 1, api.ErrForm}, {"(?:+)", 3, api.ErrForm}, {"a(?:b|?)", 6, api.ErrForm},
		// one more behind a count
		{"a**", 2, api.ErrForm}, {"a*??", 3, api.ErrForm}, {"a{2}{3}", 4, api.ErrForm}, {"(a)+*", 4, api.ErrForm}, {"ab???", 4, api.ErrForm}, {"a+{2}", 2, api.ErrForm},
		// a close without an open group
		{")", 0, api.ErrForm}, {"a)", 1, api.ErrForm}, {"(a))", 3, api.ErrForm}, {"a|)b(", 2, api.ErrForm}, {"(?:)))", 4, api.ErrForm},
		// a group that isn't closed
		{"(", 1, api.ErrForm}, {"(?:", 3, api.ErrForm}, {"(a", 2, api.ErrForm}, {"((a)", 4, api.ErrForm}, {"(a|", 3, api.ErrForm}, {"b(a*?", 5, api.ErrForm}, {`(\)`, 3, api.ErrForm},
		// the first one, from the left
		{"*)", 0, api.ErrForm}, {")*", 0, api.ErrForm}, {"(a**", 3, api.ErrForm}, {"(|*(", 2, api.ErrForm}, {"a)**(", 1, api.ErrForm},
		// what is no token comes ahead of all these
		{"*a^", 2, api.ErrOther}, {")a{3,2}", 5, api.ErrValue}, {"(a]", 2, api.ErrForm}, {"a**[", 4, api.ErrForm}, {"a*+", 2, api.ErrOther}, {"(?=a)", 0, api.ErrOther}, {"*{1001}", 2, api.ErrValue},
		{"*" + strings.Repeat("a", api.MaxText), 0, api.ErrLong},
	} {
		if n, at, e := Parse(c.p); n != nil || at != c.at || e != c.e {
			t.Errorf("Parse(%.60q): %s, %d, %d; wanted %d, %d", c.p, show(n), at, e, c.at, c.e)
		}
	}
}

func TestDeepPatterns(t *testing.T) {
	closed := strings.Repeat(")", api.MaxDeep)
	for _, most := range []string{strings.Repeat("(", api.MaxDeep), strings.Repeat("(?:", api.MaxDeep), strings.Repeat("(|a(?:", api.MaxDeep/2)} {
		if n := must(t, most+"a"+closed+most+closed); Deep(n) != api.MaxDeep || !Right(n) {
			t.Errorf("of the most groups: %d deep", Deep(n))
		}
		for behind, want := range map[string]api.Errno{
			"(":                 api.ErrLong,
			"(?:":               api.ErrLong,
			"()" + closed:       api.ErrLong,
			"(?:a)*" + closed:   api.ErrLong,
			"(*":                api.ErrLong,
			"((((":              api.ErrLong,
			"":                  api.ErrForm,
			"*(":                api.ErrForm,
			closed[1:] + "a|()": api.ErrForm,
		} {
			at := len(most)
			if behind == closed[1:]+"a|()" { // one of them isn't closed
				at += len(behind)
			}
			if n, got, e := Parse(most + behind); n != nil || got != at || e != want {
				t.Errorf("Parse of the most groups and %.9q: %d, %d", behind, got, e)
			}
		}
		if _, at, e := Parse("a)" + most + "("); at != 1 || e != api.ErrForm {
			t.Errorf("a fault ahead of too many groups: %d, %d", at, e)
		}
		if _, at, e := Parse(most + "(^"); at != len(most)+1 || e != api.ErrOther {
			t.Errorf("what is no token behind too many groups: %d, %d", at, e)
		}
	}
	if n := must(t, strings.Repeat("()(?:)", 1000)); Deep(n) != 1 || Groups(n) != 1000 || Size(n) != 4001 {
		t.Errorf("groups beside one another: %d deep", Deep(n))
	}
}

func TestLongPatterns(t *testing.T) {
	for _, c := range []struct {
		part              string
		kind, parts, size int
	}{
		{"a", Cat, api.MaxText, api.MaxText + 1},
		{"|", Alt, api.MaxText + 1, api.MaxText + 2},
		{"a*", Cat, api.MaxText / 2, api.MaxText + 1},
		{"()", Cat, api.MaxText / 2, api.MaxText + 1},
	} {
		p := strings.Repeat(c.part, api.MaxText/len(c.part))
		n := must(t, p)
		if n.Kind != c.kind || len(n.L) != c.parts || Size(n) != c.size || n.Span != [2]int{0, api.MaxText} || !Right(n) {
			t.Errorf("%q all over: kind %d of %d nodes at %v", c.part, n.Kind, len(n.L), n.Span)
		}
		if !Same(n, must(t, p)) || Same(n, must(t, p[:len(p)-2])) {
			t.Errorf("%q all over isn't the same, or one less is", c.part)
		}
	}
}

func TestParseIsNew(t *testing.T) {
	const p = "(a|b*)c"
	was := show(must(t, p))
	n := must(t, p)
	n.L[0].L[0].L[0].Set = bytes.All()
	n.L[0] = n.L[1]
	n.L = append(n.L[:1], of('x'))
	if got := show(must(t, p)); got != was {
		t.Errorf("a tree that was answered is told again: %s", got)
	}
	seen := map[*Node]struct{}{}
	all := must(t, "a|a|(a*)(a*)||")
	each(all, func(n *Node) { seen[n] = struct{}{} })
	if len(seen) != Size(all) {
		t.Errorf("%d nodes at %d places", len(seen), Size(all))
	}
}

// P6.2

func TestMeasures(t *testing.T) {
	for p, want := range map[string]struct {
		size, groups, deep int
		sets               string // of one byte each
	}{
		"":                     {1, 0, 0, ""},
		"a":                    {1, 0, 0, "a"},
		"()":                   {2, 1, 1, ""},
		"(?:)":                 {2, 0, 1, ""},
		"ab":                   {3, 0, 0, "ab"},
		"a|":                   {3, 0, 0, "a"},
		"a{7}":                 {2, 0, 0, "a"},
		"b|a*|b":               {5, 0, 0, "bab"},
		"(a|)b{2}":             {7, 1, 1, "ab"},
		"(?:a)(b)":             {5, 1, 1, "ab"},
		"((a)(?:b(c)))":        {9, 3, 3, "abc"},
		"d((?:)|c)(b(a*?)+)a?": {16, 3, 2, "dcbaa"},
	} {
		n := must(t, p)
		if Size(n) != want.size || Groups(n) != want.groups || Deep(n) != want.deep {
			t.Errorf("of %q: size %d, groups %d, deep %d", p, Size(n), Groups(n), Deep(n))
		}
		var sets []api.Set
		for i := range len(want.sets) {
			sets = append(sets, bytes.Of(want.sets[i]))
		}
		if !slices.Equal(Sets(n), sets) {
			t.Errorf("sets of %q: %x", p, Sets(n))
		}
	}
	if l := Sets(must(t, `.[^\x00-\xff]\d.`)); len(l) != 4 || l[0] != l[3] || l[1] != (api.Set{}) || l[2] != bytes.Range('0', '9') {
		t.Errorf("sets: %x", l)
	}
}

func TestNil(t *testing.T) {
	if Size(nil) != 0 || Groups(nil) != 0 || Deep(nil) != 0 || len(Sets(nil)) != 0 || Right(nil) {
		t.Error("of nil there is something")
	}
	if !Same(nil, nil) || Same(nil, &Node{}) || Same(&Node{}, nil) {
		t.Error("nil is another one than nil, or the same as Empty")
	}
	hollow := one(Cat, nil, of('a'))
	if Size(hollow) != 2 || len(Sets(hollow)) != 1 {
		t.Error("nil counts as a node")
	}
	if Right(hollow) || Same(hollow, one(Cat, of('a'), of('a'))) || Same(one(Cat, of('a'), of('a')), hollow) || !Same(hollow, one(Cat, nil, of('a'))) {
		t.Error("nil within a tree")
	}
}

func TestSame(t *testing.T) {
	l := []string{"", "a", "b", "()", "(?:)", "(a)", "(?:a)", "ab", "ba", "a|b", "b|a", "aba", "a|b|", "a*", "a*?", "a+", "b*", "a{0,7}", "a{2}", "a{2,}", "a{2,7}", "(ab)c", "a(bc)", "(a|b)|", "[ab]", "((a))", "a(b|c)", "a(b|d)", "(a*)*", "(a*)*?", "(a*?)*"}
	for i, p := range l {
		for j, q := range l {
			if Same(must(t, p), must(t, q)) != (i == j) {
				t.Errorf("Same of %q and %q: %v", p, q, i != j)
			}
		}
	}
	for p, q := range map[string]string{"a": `\x61`, "[a-c]d": "[abc]d", "a*": "a{0,}", "b?": "b{0,1}", "(c{2,2}|.)+": `(c{2}|[^\n])+`} {
		if !Same(must(t, p), must(t, q)) {
			t.Errorf("%q and %q aren't the same", p, q)
		}
	}
	n := must(t, "a(b)")
	n.Span, n.L[1].L[0].Span = [2]int{5, -7}, [2]int{math.MaxInt, math.MinInt}
	if !Same(n, must(t, "a(b)")) || !Right(n) {
		t.Error("spans aren't let be")
	}
	shared := one(Group, of('c'))
	if Same(one(Cat, of('a'), shared, shared), one(Cat, of('b'), shared, shared)) || Same(one(Cat, shared, of('a')), one(Cat, shared, of('b'))) {
		t.Error("what stands beside a shared node isn't looked at")
	}
	n.L[0].L = []*Node{}
	if !Same(n, must(t, "a(b)")) || !Right(n) {
		t.Error("an empty list is another one than none")
	}
}

func TestRight(t *testing.T) {
	a := of('a')
	deepest := a
	for range api.MaxDeep {
		deepest = one(Free, deepest)
	}
	for _, n := range []*Node{
		one(Empty), a, {Kind: Set}, one(Group, one(Empty)), one(Free, a), one(Cat, a, a), one(Cat, a, times(a, 0, 1), one(Group, one(Empty)), one(Free, a)),
		one(Alt, one(Empty), one(Empty)), one(Alt, a, one(Cat, a, a), times(a, 2, 3), one(Group, a)), one(Group, one(Alt, a, one(Empty))), one(Group, one(Cat, a, a)), one(Group, times(a, 0, -1)), one(Free, one(Group, a)),
		times(a, 0, 0), times(a, 1000, 1000), times(a, 0, 1000), times(a, 1000, -1), lazily(times(one(Group, a), 1, 1)), times(one(Free, one(Empty)), 0, -1), times(one(Group, times(a, 0, -1)), 0, -1),
		deepest, times(deepest, 0, -1), one(Cat, deepest, deepest), one(Alt, one(Empty), deepest),
	} {
		if !Right(n) {
			t.Errorf("not right: %s", show(n))
		}
	}
	for _, n := range []*Node{
		{Kind: -1}, {Kind: 7}, {Kind: math.MaxInt}, {Kind: math.MinInt},
		// too few nodes, or too many
		one(Empty, a), one(Empty, nil), one(Set, a), one(Group), one(Free), one(Repeat), one(Group, a, a), one(Free, a, a), one(Repeat, a, a), one(Cat), one(Alt), one(Cat, a), one(Alt, a),
		// such as may not be there
		one(Group, nil), one(Free, nil), one(Repeat, nil), one(Cat, a, nil), one(Alt, nil, a), one(Cat, a, one(Cat, a, a)), one(Cat, one(Alt, a, a), a), one(Cat, a, one(Empty)), one(Alt, a, one(Alt, a, a)),
		times(one(Empty), 0, 1), times(times(a, 0, 1), 0, 1), times(one(Cat, a, a), 0, 1), times(one(Alt, a, a), 0, 1),
		// within others
		one(Group, one(9)), one(Cat, a, one(Group, one(Cat, a))), one(Alt, a, times(a, 3, 2)), times(one(Group, nil), 0, 1), one(Group, one(Alt, a, one(Cat, a, one(Empty)))),
		// numbers that can't be
		times(a, -1, -1), times(a, -1, 2), times(a, 3, 2), times(a, 1, 0), times(a, 0, -2), times(a, 1001, -1), times(a, 1001, 1001), times(a, 0, 1001), times(a, math.MinInt, math.MaxInt), times(a, math.MaxInt, -1), times(a, 0, math.MinInt),
		// what a kind hasn't
		{Kind: Empty, Set: bytes.Of(0)}, {Kind: Empty, Min: 1}, {Kind: Empty, Max: 1}, {Kind: Empty, Max: -1}, lazily(one(Empty)),
		{Kind: Set, Min: 1}, {Kind: Set, Max: -1}, lazily(of('a')),
		{Kind: Group, Set: bytes.Of(255), L: []*Node{a}}, {Kind: Free, Min: -1, L: []*Node{a}}, lazily(one(Group, a)), lazily(one(Free, a)), {Kind: Group, Max: 1, L: []*Node{a}},
		{Kind: Cat, Set: bytes.Of('a'), L: []*Node{a, a}}, lazily(one(Cat, a, a)), {Kind: Cat, Min: 1, Max: 1, L: []*Node{a, a}}, {Kind: Alt, Set: bytes.All(), L: []*Node{a, a}}, lazily(one(Alt, a, a)), {Kind: Alt, Max: 2, L: []*Node{a, a}},
		{Kind: Repeat, Set: bytes.Of('a'), Max: 1, L: []*Node{a}},
		// too deep
		one(Group, deepest), one(Free, deepest), one(Cat, a, one(Group, times(deepest, 0, 1))), one(Group, one(Alt, a, deepest)),
	} {
		if Right(n) {
			t.Errorf("right: %s", show(n))
		}
	}
}

// doubled is a tree in which a few nodes stand at as many places as 2 to the n.
func doubled(kind, n int) *Node {
	all := of('a')
	for range n {
		all = one(kind, one(Cat, all, all))
	}
	return all
}

func TestSharedParts(t *testing.T) {
	n := doubled(Group, 10)
	if Size(n) != 3*1024-2 || Groups(n) != 1023 || Deep(n) != 10 || len(Sets(n)) != 1024 || !Right(n) {
		t.Errorf("of shared parts: size %d, groups %d, deep %d", Size(n), Groups(n), Deep(n))
	}
	if !Same(n, must(t, twos(n))) {
		t.Error("parts that stand in many places aren't the same as those that stand in one")
	}
	n = doubled(Group, api.MaxDeep)
	if Size(n) != api.Most || Groups(n) != api.Most || Deep(n) != api.MaxDeep || !Right(n) || Right(doubled(Free, api.MaxDeep+1)) {
		t.Errorf("of many places: size %d, groups %d, deep %d", Size(n), Groups(n), Deep(n))
	}
	if Groups(doubled(Free, api.MaxDeep)) != 0 || !Same(n, doubled(Group, api.MaxDeep)) || Same(n, doubled(Free, api.MaxDeep)) || Same(n, doubled(Group, api.MaxDeep-1)) {
		t.Error("of many places: groups, or what is the same")
	}
	Sets(n) // more than can be answered: that this ends is all
}

// twos is a pattern of a doubled tree.
func twos(n *Node) string {
	switch n.Kind {
	case Group:
		return "(" + twos(n.L[0]) + ")"
	case Cat:
		return twos(n.L[0]) + twos(n.L[1])
	}
	return "a"
}

func TestDeepTrees(t *testing.T) {
	n, m := of('a'), of('a')
	for range 200000 {
		n, m = one(Group, n), one(Group, m)
	}
	if Size(n) != 200001 || Groups(n) != 200000 || Deep(n) != 200000 || len(Sets(n)) != 1 || Right(n) || !Same(n, m) || Same(n, m.L[0]) {
		t.Errorf("of a deep tree: size %d, groups %d, deep %d", Size(n), Groups(n), Deep(n))
	}
}

// Of what stands within itself nothing is promised, but that all calls end.
func TestTreesWithinThemselves(t *testing.T) {
	for kind := -1; kind <= 7; kind++ {
		n := one(kind, of('a'), of('b'))
		n.L[1] = n
		m := one(kind, one(Group, nil))
		m.L[0].L[0] = m
		for _, x := range []*Node{n, m, one(Group, n), one(Cat, of('a'), m)} {
			if Right(x) {
				t.Errorf("right within itself: kind %d", kind)
			}
			Size(x)
			Groups(x)
			Deep(x)
			Sets(x)
			Same(x, x)
			Same(x, n)
			Same(m, x)
			Same(x, of('a'))
		}
	}
}

func TestTreesAreLeft(t *testing.T) {
	n := must(t, "(a|b*?)(?:c|)d{2,3}")
	was := show(n)
	spare := append(make([]*Node, 0, len(n.L)+1), n.L...)
	n.L = spare
	Size(n)
	Groups(n)
	Deep(n)
	Right(n)
	Same(n, must(t, "(a|b*?)(?:c|)d{2,3}"))
	l := Sets(n)
	l[0] = api.Set{}
	if show(n) != was || spare[:cap(spare)][len(spare)] != nil || Sets(n)[0] != bytes.Of('a') {
		t.Errorf("a tree was changed: %s", show(n))
	}
}
