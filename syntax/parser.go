package syntax

import (
	"caltrop/api"
	"caltrop/token"
)

// tokens are those of a pattern that aren't taken yet.
type tokens struct {
	left []token.Token
	end  int // how long the pattern is
}

// ended tells whether all are taken.
func (t *tokens) ended() bool {
	return len(t.left) == 0
}

// place is where the next one begins; as nothing stands between tokens, the
// last one that was taken ends there.
func (t *tokens) place() int {
	if t.ended() {
		return t.end
	}
	return t.left[0].From
}

// sees tells whether the next one is of a kind.
func (t *tokens) sees(kind int) bool {
	return !t.ended() && t.left[0].Kind == kind
}

// take takes the next one.
func (t *tokens) take() token.Token {
	next := t.left[0]
	t.left = t.left[1:]
	return next
}

// skip takes the next one, if it is of a kind.
func (t *tokens) skip(kind int) bool {
	if !t.sees(kind) {
		return false
	}
	t.take()
	return true
}

// A parser makes a tree of tokens. Each of its methods that answers an error
// lets it stand at the fault's place.
type parser struct {
	tokens
	deep int // how many groups it stands in
}

// span is from a place up to where the parser stands.
func (p *parser) span(from int) [2]int {
	return [2]int{from, p.place()}
}

// whole takes all tokens.
func (p *parser) whole() (*Node, api.Errno) {
	n, e := p.pattern()
	if e == api.OK && !p.ended() { // a close without an open group
		return nil, api.ErrForm
	}
	return n, e
}

// pattern takes alternatives, up to a close or to the end.
func (p *parser) pattern() (*Node, api.Errno) {
	from := p.place()
	var l []*Node
	for {
		n, e := p.alternative()
		if e != api.OK {
			return nil, e
		}
		l = append(l, n)
		if !p.skip(token.Bar) {
			return p.joined(Alt, l, from), api.OK
		}
	}
}

// alternative takes items, up to a bar, to a close or to the end.
func (p *parser) alternative() (*Node, api.Errno) {
	from := p.place()
	var l []*Node
	for !p.ended() && !p.sees(token.Bar) && !p.sees(token.Close) {
		n, e := p.item()
		if e != api.OK {
			return nil, e
		}
		l = append(l, n)
	}
	if len(l) == 0 {
		return &Node{Kind: Empty, Span: p.span(from)}, api.OK
	}
	return p.joined(Cat, l, from), api.OK
}

// joined is the node of a kind of some nodes, or the only one of these.
func (p *parser) joined(kind int, l []*Node, from int) *Node {
	if len(l) == 1 {
		return l[0]
	}
	return &Node{Kind: kind, L: l, Span: p.span(from)}
}

// item takes what may be repeated, and its count.
func (p *parser) item() (*Node, api.Errno) {
	from := p.place()
	n, e := p.single()
	if e != api.OK || !p.sees(token.Count) {
		return n, e
	}
	t := p.take()
	return &Node{Kind: Repeat, Min: t.Min, Max: t.Max, Lazy: t.Lazy, L: []*Node{n}, Span: p.span(from)}, api.OK
}

// single takes a set or a group.
func (p *parser) single() (*Node, api.Errno) {
	from := p.place()
	switch {
	case p.sees(token.Set):
		t := p.take()
		return &Node{Kind: Set, Set: t.Set, Span: p.span(from)}, api.OK
	case p.sees(token.Open):
		return p.group(Group)
	case p.sees(token.Free):
		return p.group(Free)
	}
	return nil, api.ErrForm // a count without an item
}

// group takes a group of a kind.
func (p *parser) group(kind int) (*Node, api.Errno) {
	if p.deep == api.MaxDeep {
		return nil, api.ErrLong
	}
	from := p.place()
	p.take()
	p.deep++
	n, e := p.pattern()
	p.deep--
	if e != api.OK {
		return nil, e
	}
	if !p.skip(token.Close) { // the pattern's end
		return nil, api.ErrForm
	}
	return &Node{Kind: kind, L: []*Node{n}, Span: p.span(from)}, api.OK
}
