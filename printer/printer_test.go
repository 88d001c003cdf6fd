package printer

import (
	"math"
	"strconv"
	"strings"
	"testing"

	"caltrop/api"
	"caltrop/bytes"
	"caltrop/syntax"
	"caltrop/token"
)

// one is a node of a kind, of some others.
func one(kind int, l ...*syntax.Node) *syntax.Node {
	return &syntax.Node{Kind: kind, L: l}
}

// of is the set of some bytes.
func of(l ...byte) *syntax.Node {
	return &syntax.Node{Kind: syntax.Set, Set: bytes.Of(l...)}
}

// repeat is a Repeat.
func repeat(n *syntax.Node, least, most int, lazy bool) *syntax.Node {
	return &syntax.Node{Kind: syntax.Repeat, Min: least, Max: most, Lazy: lazy, L: []*syntax.Node{n}}
}

// P7.1

func TestByte(t *testing.T) {
	const (
		itself = "0123456789ABCDEFGHIJKLMNOPQRSTUVWXYZabcdefghijklmnopqrstuvwxyz !\"#%&',:;<=>@_~\x60"
		behind = "\\|()[]{}*+?.^$/-"
	)
	for b := range 256 {
		c := string([]byte{byte(b)})
		want := `\x` + strconv.FormatInt(int64(0x100+b), 16)[1:]
		switch {
		case strings.Contains(itself, c):
			want = c
		case strings.Contains(behind, c):
			want = `\` + c
		}
		if got := Byte(byte(b)); got != want {
			t.Errorf("Byte(%d): %q; wanted %q", b, got, want)
		}
	}
	for b, want := range map[byte]string{0: `\x00`, 9: `\x09`, 10: `\x0a`, 31: `\x1f`, ' ': " ", '-': `\-`, '/': `\/`, '\\': `\\`, ']': `\]`, 'a': "a", 127: `\x7f`, 128: `\x80`, 255: `\xff`} {
		if got := Byte(b); got != want {
			t.Errorf("Byte(%d): %q; wanted %q", b, got, want)
		}
	}
}

func TestSet(t *testing.T) {
	for want, s := range map[string]api.Set{
		".":                      bytes.Not(bytes.Of(10)),
		`[^\x00-\xff]`:           {},
		`[\x00-\xff]`:            bytes.All(),
		"a":                      bytes.Of('a'),
		`\.`:                     bytes.Of('.'),
		`\x0a`:                   bytes.Of(10),
		"[a-b]":                  bytes.Of('a', 'b'),
		"[a-c]":                  bytes.Of('c', 'a', 'b'),
		"[ac]":                   bytes.Of('c', 'a'),
		"[ace-gi]":               bytes.Of('a', 'c', 'e', 'f', 'g', 'i'),
		`[\x09-\x0d ]`:           bytes.Of(9, 10, 11, 12, 13, 32),
		"[0-9A-Z_a-z]":           bytes.From([2]byte{'0', '9'}, [2]byte{'A', 'Z'}, [2]byte{'_', '_'}, [2]byte{'a', 'z'}),
		`[\x00-\x09\x0b-\xfe]`:   bytes.Not(bytes.Of(10, 255)),
		"[\\x00-\x60b-\\xff]":    bytes.Not(bytes.Of('a')),
		`[\(-\*\-\[-\^\{\}\xff]`: bytes.Of('(', ')', '*', '-', '[', '\\', ']', '^', '{', '}', 255),
	} {
		if got := Set(s); got != want {
			t.Errorf("Set: %s; wanted %s", got, want)
		}
	}
}

// checkSet holds a set against what is read of its text.
func checkSet(t *testing.T, s api.Set) {
	t.Helper()
	p := Set(s)
	l, n, e := token.Scan(p)
	if n != 1 || e != api.OK || l[0].Kind != token.Set || l[0].Set != s {
		t.Fatalf("Set: %s, which is read as %v", p, l)
	}
}

func TestSetIsRead(t *testing.T) {
	for lo := range 256 {
		for hi := lo; hi < 256; hi++ {
			s := bytes.Range(byte(lo), byte(hi))
			checkSet(t, s)
			checkSet(t, bytes.Not(s))
		}
	}
	d := &dice{1}
	for range 20000 {
		checkSet(t, d.set())
	}
}

func TestCount(t *testing.T) {
	for _, c := range []struct {
		lo, hi int
		want   string
	}{
		{0, -1, "*"}, {1, -1, "+"}, {0, 1, "?"},
		{0, 0, "{0}"}, {1, 1, "{1}"}, {2, 2, "{2}"}, {1000, 1000, "{1000}"},
		{2, -1, "{2,}"}, {1000, -1, "{1000,}"},
		{0, 2, "{0,2}"}, {1, 2, "{1,2}"}, {2, 3, "{2,3}"}, {0, 1000, "{0,1000}"}, {10, 11, "{10,11}"},
		// numbers that can't be
		{-1, -1, "{-1,}"}, {-2, -1, "{-2,}"}, {-2, -2, "{-2}"}, {3, 2, "{3,2}"}, {1, 0, "{1,0}"}, {0, -2, "{0,-2}"}, {-1, 0, "{-1,0}"}, {-1, 1, "{-1,1}"}, {1001, 1001, "{1001}"}, {1001, -1, "{1001,}"},
		{math.MinInt, math.MaxInt, "{-9223372036854775808,9223372036854775807}"}, {math.MaxInt, math.MaxInt, "{9223372036854775807}"}, {math.MinInt, -1, "{-9223372036854775808,}"},
	} {
		if got := Count(c.lo, c.hi, false); got != c.want {
			t.Errorf("Count(%d, %d): %s; wanted %s", c.lo, c.hi, got, c.want)
		}
		if got := Count(c.lo, c.hi, true); got != c.want+"?" {
			t.Errorf("lazy Count(%d, %d): %s; wanted %s?", c.lo, c.hi, got, c.want)
		}
	}
}

func TestPrint(t *testing.T) {
	a, b, empty := of('a'), of('b'), one(syntax.Empty)
	for _, c := range []struct {
		n    *syntax.Node
		want string
	}{
		{empty, ""}, {a, "a"}, {of('a', 'b'), "[a-b]"}, {&syntax.Node{Kind: syntax.Set}, `[^\x00-\xff]`}, {of('+'), `\+`},
		{one(syntax.Group, empty), "()"}, {one(syntax.Free, empty), "(?:)"}, {one(syntax.Group, one(syntax.Free, a)), "((?:a))"},
		{one(syntax.Cat, a, b, a), "aba"}, {one(syntax.Alt, a, b, a), "a|b|a"}, {one(syntax.Alt, empty, empty), "|"}, {one(syntax.Alt, empty, a, empty), "|a|"},
		{one(syntax.Alt, one(syntax.Cat, a, b), b), "ab|b"}, {one(syntax.Cat, a, one(syntax.Group, one(syntax.Alt, a, b))), "a(a|b)"},
		{repeat(a, 0, -1, false), "a*"}, {repeat(a, 0, -1, true), "a*?"}, {repeat(a, 1, -1, false), "a+"}, {repeat(a, 0, 1, true), "a??"}, {repeat(a, 2, 2, false), "a{2}"}, {repeat(a, 2, -1, true), "a{2,}?"}, {repeat(a, 2, 3, false), "a{2,3}"}, {repeat(a, 1, 1, false), "a{1}"},
		{repeat(one(syntax.Free, one(syntax.Alt, a, b)), 1, -1, false), "(?:a|b)+"}, {repeat(one(syntax.Group, repeat(a, 0, -1, true)), 0, 1, false), "(a*?)?"}, {one(syntax.Cat, repeat(a, 0, -1, false), of('?')), `a*\?`}, {one(syntax.Cat, one(syntax.Group, of('?')), of('{')), `(\?)\{`},
	} {
		c.n.Span = [2]int{7, -3} // these are let be
		if got, e := Print(c.n); got != c.want || e != api.OK {
			t.Errorf("Print: %q, %d; wanted %q", got, e, c.want)
		}
	}
}

func TestPrintOfNoTree(t *testing.T) {
	a := of('a')
	within := one(syntax.Group, nil)
	within.L[0] = within
	deep := a
	for range api.MaxDeep + 1 {
		deep = one(syntax.Group, deep)
	}
	for _, n := range []*syntax.Node{
		nil, one(-1), one(7), one(syntax.Cat), one(syntax.Cat, a), one(syntax.Alt, a), one(syntax.Group), one(syntax.Group, nil), one(syntax.Free, a, a), one(syntax.Repeat), one(syntax.Cat, a, nil),
		one(syntax.Cat, a, one(syntax.Empty)), one(syntax.Cat, a, one(syntax.Cat, a, a)), one(syntax.Cat, a, one(syntax.Alt, a, a)), one(syntax.Alt, a, one(syntax.Alt, a, a)), one(syntax.Set, a), one(syntax.Empty, a),
		repeat(a, 3, 2, false), repeat(a, -1, -1, false), repeat(a, 0, 1001, false), repeat(a, 1001, -1, false), repeat(a, 0, -2, false), repeat(repeat(a, 0, 1, false), 0, 1, false), repeat(one(syntax.Empty), 0, 1, false), repeat(one(syntax.Cat, a, a), 0, 1, false),
		{Kind: syntax.Set, Lazy: true}, {Kind: syntax.Empty, Set: bytes.Of('a')}, {Kind: syntax.Group, Max: 1, L: []*syntax.Node{a}}, within, one(syntax.Alt, a, within), deep,
		one(syntax.Alt, append(copies(a, 2*api.MaxText), one(8))...), // this is told ahead of what is too long
	} {
		if s, e := Print(n); s != "" || e != api.ErrArg {
			t.Errorf("Print of no tree: %.60q, %d", s, e)
		}
	}
}

// copies is a node, many times.
func copies(n *syntax.Node, k int) []*syntax.Node {
	l := make([]*syntax.Node, k)
	for i := range l {
		l[i] = n
	}
	return l
}

func TestLongTrees(t *testing.T) {
	a, escape, empty := of('a'), of(0), one(syntax.Empty)
	doubled := a
	for range api.MaxDeep {
		doubled = one(syntax.Free, one(syntax.Cat, doubled, doubled))
	}
	const most = api.MaxText
	for i, c := range []struct {
		n    *syntax.Node
		long int // 0 of what is too long
	}{
		{one(syntax.Cat, copies(a, most)...), most},
		{one(syntax.Cat, copies(a, most+1)...), 0},
		{one(syntax.Cat, copies(escape, most/4)...), most},
		{one(syntax.Cat, append(copies(escape, most/4), a)...), 0},
		{one(syntax.Cat, append(copies(a, most-3), escape)...), 0},
		{one(syntax.Alt, copies(empty, most+1)...), most},
		{one(syntax.Alt, copies(empty, most+2)...), 0},
		{one(syntax.Group, one(syntax.Cat, copies(a, most-2)...)), most},
		{one(syntax.Group, one(syntax.Cat, copies(a, most-1)...)), 0},
		{one(syntax.Free, one(syntax.Cat, copies(a, most-3)...)), 0},
		{one(syntax.Cat, append(copies(a, most-7), repeat(a, 0, 10, false))...), most},
		{one(syntax.Cat, append(copies(a, most-7), repeat(a, 0, 10, true))...), 0},
		{one(syntax.Cat, copies(repeat(a, 2, 3, true), most)...), 0},
		{one(syntax.Cat, copies(a, 5*most)...), 0},
		{doubled, 0},
	} {
		s, e := Print(c.n)
		want := api.OK
		if c.long == 0 {
			want = api.ErrLong
		}
		if len(s) != c.long || e != want {
			t.Errorf("%d: Print of a long tree: %d bytes, %d; wanted %d", i, len(s), e, c.long)
		}
	}
}

func TestNormal(t *testing.T) {
	for p, want := range map[string]string{
		"":                            "",
		"(?:a|[b]){1,}":               "(?:a|b)+",
		"[cab]":                       "[a-c]",
		"(?:x){0,}?":                  "(?:x)*?",
		`[^\n]`:                       ".",
		`\x2b\x01{1,1}`:               `\+\x01{1}`,
		"a{2,}|b{0,1}":                "a{2,}|b?",
		`\d\D`:                        `[0-9][\x00-\/:-\xff]`,
		`\w`:                          "[0-9A-Z_a-z]",
		`\s`:                          `[\x09-\x0d ]`,
		`\n\t\r\f\v`:                  `\x0a\x09\x0d\x0c\x0b`,
		"/-\x60\xff":                  "\\/\\-\x60\\xff",
		`[$.*][^+\^-\^]`:              `[\$\*\.][\x00-\*,-\]_-\xff]`,
		"()(?:)||":                    "()(?:)||",
		"a{007}b{0,0}?c{00,01}?":      "a{7}b{0}?c??",
		"[a-a][a-bb-d]":               "a[a-d]",
		`[\x00-\xff][^\x00-\xff][^a]`: "[\\x00-\\xff][^\\x00-\\xff][\\x00-\x60b-\\xff]",
	} {
		if s, at, e := Normal(p); s != want || at != 0 || e != api.OK {
			t.Errorf("Normal(%q): %q, %d, %d; wanted %q", p, s, at, e, want)
		}
	}
}

func TestNormalOfFaults(t *testing.T) {
	for _, c := range []struct {
		p  string
		at int
		e  api.Errno
	}{
		{"a**", 2, api.ErrForm}, {"*", 0, api.ErrForm}, {"a)", 1, api.ErrForm}, {"(a", 2, api.ErrForm}, {"a]", 1, api.ErrForm},
		{"a^", 1, api.ErrOther}, {"(?=a)", 0, api.ErrOther}, {"a{3,2}", 4, api.ErrValue},
		{strings.Repeat("(", api.MaxDeep) + "((", api.MaxDeep, api.ErrLong},
		{strings.Repeat("a", api.MaxText+1), 0, api.ErrLong},
		{strings.Repeat("\x00", api.MaxText/4+1), 0, api.ErrLong}, // what is printed is longer than the pattern
	} {
		if s, at, e := Normal(c.p); s != "" || at != c.at || e != c.e {
			t.Errorf("Normal(%.60q): %.60q, %d, %d; wanted %d, %d", c.p, s, at, e, c.at, c.e)
		}
	}
	if s, at, e := Normal(strings.Repeat("\x00", api.MaxText/4)); len(s) != api.MaxText || at != 0 || e != api.OK {
		t.Errorf("Normal of what is just not too long: %d bytes, %d, %d", len(s), at, e)
	}
}

// P7.2

// A dice makes numbers, sets and trees that are the same each time.
type dice struct {
	seed uint64
}

func (d *dice) under(n int) int {
	d.seed = d.seed*6364136223846793005 + 1442695040888963407
	return int(d.seed>>33) % n
}

func (d *dice) set() api.Set {
	var s api.Set
	for range d.under(5) {
		a, b := byte(d.under(256)), byte(d.under(256))
		s = bytes.Union(s, bytes.Of(a, byte(d.under(256))), bytes.Range(max(a, b)-byte(d.under(2)), max(a, b)))
	}
	if d.under(8) == 0 {
		return bytes.Not(s)
	}
	return s
}

// single is a set or a group.
func (d *dice) single(deep int) *syntax.Node {
	if deep == 0 || d.under(2) == 0 {
		return &syntax.Node{Kind: syntax.Set, Set: d.set()}
	}
	return one(syntax.Group+d.under(2), d.tree(deep-1))
}

func (d *dice) item(deep int) *syntax.Node {
	n := d.single(deep)
	if d.under(2) == 0 {
		return n
	}
	least := []int{0, 1, 2, d.under(api.MaxCount)}[d.under(4)]
	return repeat(n, least, []int{-1, least, least + 1, api.MaxCount}[d.under(4)], d.under(2) == 0)
}

func (d *dice) alternative(deep int) *syntax.Node {
	var l []*syntax.Node
	for range d.under(4) {
		l = append(l, d.item(deep))
	}
	switch len(l) {
	case 0:
		return one(syntax.Empty)
	case 1:
		return l[0]
	}
	return one(syntax.Cat, l...)
}

func (d *dice) tree(deep int) *syntax.Node {
	l := []*syntax.Node{d.alternative(deep)}
	for range d.under(3) {
		l = append(l, d.alternative(deep))
	}
	if len(l) == 1 {
		return l[0]
	}
	return one(syntax.Alt, l...)
}

func TestThereAndBack(t *testing.T) {
	d := &dice{2}
	for range 30000 {
		n := d.tree(d.under(5))
		s, e := Print(n)
		if e != api.OK {
			t.Fatalf("Print: %d", e)
		}
		back, at, e := syntax.Parse(s)
		if e != api.OK || !syntax.Same(back, n) {
			t.Fatalf("printed as %q it is read as another one: %d, %d", s, at, e)
		}
		if again, _, e := Normal(s); again != s || e != api.OK {
			t.Fatalf("Normal(%q): %q, %d", s, again, e)
		}
	}
}

func TestPrintLeavesTheTree(t *testing.T) {
	n, at, e := syntax.Parse("(a|b*?)[c-d]{2,3}|")
	again, _, _ := syntax.Parse("(a|b*?)[c-d]{2,3}|")
	Print(n)
	if at != 0 || e != api.OK || !syntax.Same(n, again) || n.Span != again.Span {
		t.Error("a tree was changed")
	}
}
