package syntax

import (
	"slices"
	"strconv"
	"strings"
	"testing"

	"caltrop/api"
	"caltrop/bytes"
	"caltrop/token"
)

// class is some bytes, told by their ranges.
func class(s api.Set) string {
	hex := func(b byte) string { return `\x` + strconv.FormatInt(int64(b)+0x100, 16)[1:] }
	text := ""
	for _, r := range bytes.Ranges(s) {
		text += hex(r[0]) + "-" + hex(r[1])
	}
	return text
}

// show tells all that is to be seen of a tree.
func show(n *Node) string {
	if n == nil {
		return "nil"
	}
	names := []string{"empty", "set", "group", "free", "cat", "alt", "repeat"}
	text := strconv.Itoa(n.Kind)
	if 0 <= n.Kind && n.Kind < len(names) {
		text = names[n.Kind]
	}
	text += " " + strconv.Itoa(n.Span[0]) + "-" + strconv.Itoa(n.Span[1])
	if n.Set != (api.Set{}) {
		text += " " + class(n.Set)
	}
	if n.Min != 0 || n.Max != 0 {
		text += " from " + strconv.Itoa(n.Min) + " to " + strconv.Itoa(n.Max)
	}
	if n.Lazy {
		text += " lazy"
	}
	for _, part := range n.L {
		text += " [" + show(part) + "]"
	}
	return text
}

// A model makes the tree of tokens by cutting them where bars stand, and then
// each piece where items begin.
type model struct {
	end int // how long the pattern is
}

// fault is the first token that can't stand where it does.
func (m model) fault(l []token.Token) (int, api.Errno) {
	open := 0
	for i, t := range l {
		switch t.Kind {
		case token.Open, token.Free:
			open++
			if open > 200 {
				return t.From, api.ErrLong
			}
		case token.Close:
			open--
			if open < 0 {
				return t.From, api.ErrForm
			}
		case token.Count:
			if i == 0 || l[i-1].Kind != token.Set && l[i-1].Kind != token.Close {
				return t.From, api.ErrForm
			}
		}
	}
	if open > 0 {
		return m.end, api.ErrForm
	}
	return 0, api.OK
}

// cut is a list of tokens, cut by a rule that is asked of those outside of groups.
func cut(l []token.Token, ahead func(kind int) bool) [][]token.Token {
	open, from := 0, 0
	var all [][]token.Token
	for i, t := range l {
		if open == 0 && ahead(t.Kind) {
			all = append(all, l[from:i])
			from = i
		}
		switch t.Kind {
		case token.Open, token.Free:
			open++
		case token.Close:
			open--
		}
	}
	return append(all, l[from:])
}

// pattern is the tree of tokens that begin at a place.
func (m model) pattern(l []token.Token, at int) *Node {
	pieces := cut(l, func(kind int) bool { return kind == token.Bar })
	alternatives := []*Node{m.alternative(pieces[0], at)}
	for _, piece := range pieces[1:] {
		alternatives = append(alternatives, m.alternative(piece[1:], piece[0].To))
	}
	if len(alternatives) == 1 {
		return alternatives[0]
	}
	return &Node{Kind: Alt, L: alternatives, Span: [2]int{l[0].From, l[len(l)-1].To}}
}

func (m model) alternative(l []token.Token, at int) *Node {
	if len(l) == 0 {
		return &Node{Span: [2]int{at, at}}
	}
	var items []*Node
	pieces := cut(l, func(kind int) bool { return kind == token.Set || kind == token.Open || kind == token.Free })
	for _, piece := range pieces[1:] { // ahead of the first item there is nothing
		items = append(items, m.item(piece))
	}
	if len(items) == 1 {
		return items[0]
	}
	return &Node{Kind: Cat, L: items, Span: [2]int{l[0].From, l[len(l)-1].To}}
}

func (m model) item(l []token.Token) *Node {
	last := l[len(l)-1]
	if last.Kind == token.Count {
		item := m.item(l[:len(l)-1])
		return &Node{Kind: Repeat, Min: last.Min, Max: last.Max, Lazy: last.Lazy, L: []*Node{item}, Span: [2]int{l[0].From, last.To}}
	}
	if len(l) == 1 {
		return &Node{Kind: Set, Set: last.Set, Span: [2]int{last.From, last.To}}
	}
	kind := Group
	if l[0].Kind == token.Free {
		kind = Free
	}
	return &Node{Kind: kind, L: []*Node{m.pattern(l[1:len(l)-1], l[0].To)}, Span: [2]int{l[0].From, last.To}}
}

// parse is what Parse ought to answer.
func (m model) parse(p string) (*Node, int, api.Errno) {
	l, at, e := token.Scan(p)
	if e != api.OK {
		return nil, at, e
	}
	m.end = len(p)
	if at, e := m.fault(l); e != api.OK {
		return nil, at, e
	}
	return m.pattern(l, 0), 0, api.OK
}

// checkModel holds what is parsed against the model.
func checkModel(t *testing.T, p string) {
	t.Helper()
	want, wantAt, wantE := model{}.parse(p)
	n, at, e := Parse(p)
	if show(n) != show(want) || at != wantAt || e != wantE {
		t.Fatalf("Parse(%.200q): %.500s, %d, %d; wanted %.500s, %d, %d", p, show(n), at, e, show(want), wantAt, wantE)
	}
	if n == nil {
		return
	}
	if !Right(n) || !Same(n, want) || Size(n) != strings.Count(show(n), "[")+1 {
		t.Fatalf("Parse(%.200q) isn't right, or not the same, or not of %d nodes", p, Size(n))
	}
	if Groups(n) != strings.Count(show(n), "group") || Deep(n) != opened(p) {
		t.Fatalf("Parse(%.200q): %d groups, %d deep", p, Groups(n), Deep(n))
	}
	l, _, _ := token.Scan(p)
	sets := Sets(n)
	for _, x := range l {
		if x.Kind == token.Set {
			if len(sets) == 0 || sets[0] != x.Set {
				t.Fatalf("Parse(%.200q): sets %x", p, Sets(n))
			}
			sets = sets[1:]
		}
	}
	if len(sets) > 0 {
		t.Fatalf("Parse(%.200q): sets %x", p, Sets(n))
	}
}

// opened is how many groups are open at once, in a pattern.
func opened(p string) int {
	open, most := 0, 0
	l, _, _ := token.Scan(p)
	for _, t := range l {
		switch t.Kind {
		case token.Open, token.Free:
			open++
			most = max(most, open)
		case token.Close:
			open--
		}
	}
	return most
}

// P6.1, P6.2: of all short lists of tokens.
func TestAllShortPatterns(t *testing.T) {
	parts := []string{"a", "(", "(?:", ")", "|", "*", "{2,3}?"}
	ahead := []string{""}
	for range 6 {
		var next []string
		for _, p := range ahead {
			for _, part := range parts {
				next = append(next, p+part)
			}
		}
		for _, p := range next {
			checkModel(t, p)
		}
		ahead = next
	}
}

// A dice makes numbers that are the same each time.
type dice struct {
	seed uint64
}

func (d *dice) under(n int) int {
	d.seed = d.seed*6364136223846793005 + 1442695040888963407
	return int(d.seed>>33) % n
}

// P6.1, P6.2: of longer ones, most of which are patterns.
func TestLongerPatterns(t *testing.T) {
	d := &dice{1}
	for range 20000 {
		checkModel(t, d.pattern(d.under(6)))
		p := d.pattern(3)
		i := d.under(len(p) + 1)
		checkModel(t, p[:i]+[]string{"*", ")", "(", "|", "$", "{2}", "(?:"}[d.under(7)]+p[i:])
	}
}

// pattern is any pattern, of groups so deep.
func (d *dice) pattern(deep int) string {
	text := ""
	for range d.under(5) {
		text += d.item(deep)
		if d.under(3) == 0 {
			text += "|"
		}
	}
	return text
}

func (d *dice) item(deep int) string {
	text := []string{"b", ".", `\x00`, "[^a-c]", "-"}[d.under(5)]
	if deep > 0 && d.under(2) == 0 {
		text = []string{"(", "(?:"}[d.under(2)] + d.pattern(deep-1) + ")"
	}
	return text + []string{"", "", "", "*", "+?", "?", "{2}", "{3,}", "{0,0}?", "{0,7}"}[d.under(10)]
}

// write is a text that is parsed to a tree, if it is a pattern's one.
func write(n *Node) string {
	if n == nil {
		return ""
	}
	var l []string
	for _, part := range n.L {
		l = append(l, write(part))
	}
	text := strings.Join(l, "")
	switch n.Kind {
	case Set:
		if n.Set == (api.Set{}) {
			return `[^\x00-\xff]`
		}
		return "[" + class(n.Set) + "]"
	case Group:
		return "(" + text + ")"
	case Free:
		return "(?:" + text + ")"
	case Alt:
		return strings.Join(l, "|")
	case Repeat:
		text += "{" + strconv.Itoa(n.Min) + "," + strconv.Itoa(n.Max) + "}"
		if n.Lazy {
			text += "?"
		}
		return strings.ReplaceAll(text, ",-1}", ",}")
	}
	return text
}

// node is any node, most often a sound one.
func (d *dice) node(deep int) *Node {
	n := &Node{Kind: d.under(7), Span: [2]int{d.under(9), d.under(9)}}
	if deep == 0 {
		n.Kind = d.under(2)
	}
	parts := []int{0, 0, 1, 1, 2 + d.under(2), 2, 1}[n.Kind]
	if n.Kind == Set {
		n.Set = []api.Set{{}, bytes.Of('a'), bytes.All(), bytes.Range(250, 255)}[d.under(4)]
	}
	if n.Kind == Repeat {
		n.Min = []int{0, 1, 2, 1000}[d.under(4)]
		n.Max = max(n.Min, []int{0, 1, 3, 1000}[d.under(4)])
		n.Lazy = d.under(2) == 0
		if d.under(2) == 0 {
			n.Max = -1
		}
	}
	if d.under(12) == 0 {
		d.spoil(n)
		parts += d.under(2)
	}
	for range parts {
		n.L = append(n.L, d.node(max(deep-1, 0)))
	}
	return n
}

// spoil changes a node in one of its fields.
func (d *dice) spoil(n *Node) {
	switch d.under(7) {
	case 0:
		n.Kind = d.under(12) - 2
	case 1:
		n.Set = bytes.Of('b')
	case 2:
		n.Min = d.under(3) - 1
	case 3:
		n.Max = []int{-2, -1, 1, 1001}[d.under(4)]
	case 4:
		n.Lazy = true
	case 5:
		n.L = []*Node{nil}
	}
}

// P6.2: a tree is right just if there is a pattern that has it.
func TestRightIsAPatternsTree(t *testing.T) {
	d := &dice{2}
	var counts [2]int
	for range 200000 {
		n := d.node(3)
		parsed, _, e := Parse(write(n))
		has := e == api.OK && Same(parsed, n)
		if Right(n) != has {
			t.Fatalf("Right(%s): %v; its text %s", show(n), Right(n), write(n))
		}
		counts[slices.Index([]bool{false, true}, has)]++
	}
	if min(counts[0], counts[1]) < 10000 {
		t.Errorf("too few of a sort: %v", counts)
	}
}
