package token

import "caltrop/api"

// place is where a reader stands.
type place struct {
	at int
}

// step goes on by some bytes.
func (p *place) step(n int) {
	p.at += n
}

// back goes back to where a fault is told, and answers that.
func (p *place) back(at int, e api.Errno) api.Errno {
	p.at = at
	return e
}

// A reader goes through a pattern. Each of its methods that answers an error
// lets it stand at the fault's place.
type reader struct {
	place
	text string
}

// A tokenRule and a setRule are how a reader takes what begins where it stands.
type (
	tokenRule func(*reader) (Token, api.Errno)
	setRule   func(*reader) (api.Set, api.Errno)
)

// ended tells whether all is taken.
func (r *reader) ended() bool {
	return r.at >= len(r.text)
}

// sees tells whether a byte is the next one.
func (r *reader) sees(b byte) bool {
	return !r.ended() && r.text[r.at] == b
}

// skip takes a byte, if it is the next one.
func (r *reader) skip(b byte) bool {
	if !r.sees(b) {
		return false
	}
	r.step(1)
	return true
}

// token takes a token.
func (r *reader) token() (Token, api.Errno) {
	from := r.at
	t, e := tokenBy(r.text[from])(r)
	t.From, t.To = from, r.at
	return t, e
}

// tokenBy is how a token is taken that begins with a byte.
func tokenBy(b byte) tokenRule {
	switch b {
	case '|':
		return (*reader).bar
	case '(':
		return (*reader).open
	case ')':
		return (*reader).close
	case '*', '+', '?':
		return (*reader).sign
	case '{':
		return (*reader).braces
	}
	return (*reader).set
}

func (r *reader) bar() (Token, api.Errno) {
	r.step(1)
	return Token{Kind: Bar}, api.OK
}

func (r *reader) close() (Token, api.Errno) {
	r.step(1)
	return Token{Kind: Close}, api.OK
}

// open takes what opens a group.
func (r *reader) open() (Token, api.Errno) {
	from := r.at
	r.step(1)
	if !r.skip('?') {
		return Token{Kind: Open}, api.OK
	}
	if !r.skip(':') {
		return Token{}, r.back(from, api.ErrOther)
	}
	return Token{Kind: Free}, api.OK
}

// sign takes a count that has a sign of its own.
func (r *reader) sign() (Token, api.Errno) {
	b := r.text[r.at]
	r.step(1)
	switch b {
	case '*':
		return r.count(0, endless)
	case '+':
		return r.count(1, endless)
	}
	return r.count(0, 1)
}

// braces takes a count that tells its numbers.
func (r *reader) braces() (Token, api.Errno) {
	r.step(1)
	least, e := r.number()
	if e != api.OK {
		return Token{}, e
	}
	most := least
	if r.skip(',') {
		most, e = r.most(least)
	}
	if e != api.OK {
		return Token{}, e
	}
	if !r.skip('}') {
		return Token{}, api.ErrForm
	}
	return r.count(least, most)
}

// most takes the greater number of a count, which may be left out.
func (r *reader) most(least int) (int, api.Errno) {
	if r.sees('}') {
		return endless, api.OK
	}
	from := r.at
	n, e := r.number()
	if e == api.OK && n < least {
		return 0, r.back(from, api.ErrValue)
	}
	return n, e
}

// number takes a number.
func (r *reader) number() (int, api.Errno) {
	from, n := r.at, 0
	for !r.ended() && digit(r.text[r.at]) {
		// all that is too great is the same, however many digits it has
		n = min(10*n+int(r.text[r.at]-'0'), api.MaxCount+1)
		r.step(1)
	}
	if r.at == from {
		return 0, api.ErrForm
	}
	if n > api.MaxCount {
		return 0, r.back(from, api.ErrValue)
	}
	return n, api.OK
}

// count takes what may stand behind a count's numbers.
func (r *reader) count(least, most int) (Token, api.Errno) {
	lazy := r.skip('?')
	if r.sees('+') { // it would let a matcher never go back
		return Token{}, api.ErrOther
	}
	return Token{Kind: Count, Min: least, Max: most, Lazy: lazy}, api.OK
}

// set takes a token that is a set.
func (r *reader) set() (Token, api.Errno) {
	s, e := setBy(r.text[r.at])(r)
	return Token{Kind: Set, Set: s}, e
}

// digit tells whether a byte is a digit.
func digit(b byte) bool {
	return '0' <= b && b <= '9'
}
