package token

import (
	"strings"

	"caltrop/api"
	"caltrop/bytes"
)

// What may stand behind a backslash, but for the letters of sets and x.
const (
	themselves = `\|()[]{}*+?.^$/-` // each for itself
	letters    = "ntrfv"            // each for the byte of controls that stands where it does
	controls   = "\n\t\r\f\v"
	refused    = "123456789bBAzZGQEkpP" // what isn't taken
)

// setBy is how a set is taken that begins with a byte.
func setBy(b byte) setRule {
	switch b {
	case '[':
		return (*reader).class
	case '\\':
		return (*reader).escape
	case '.':
		return (*reader).point
	case '^', '$':
		return (*reader).edge
	case ']', '}':
		return (*reader).stray
	}
	return (*reader).itself
}

// itself takes a byte that stands for itself.
func (r *reader) itself() (api.Set, api.Errno) {
	b := r.text[r.at]
	r.step(1)
	return bytes.Of(b), api.OK
}

func (r *reader) point() (api.Set, api.Errno) {
	r.step(1)
	return bytes.Not(bytes.Of('\n')), api.OK
}

// edge refuses what asks for an edge of the text.
func (r *reader) edge() (api.Set, api.Errno) {
	return api.Set{}, api.ErrOther
}

// stray refuses what closes nothing.
func (r *reader) stray() (api.Set, api.Errno) {
	return api.Set{}, api.ErrForm
}

// escape takes an escape.
func (r *reader) escape() (api.Set, api.Errno) {
	from := r.at
	r.step(1)
	if r.ended() {
		return api.Set{}, api.ErrForm
	}
	b := r.text[r.at]
	if strings.IndexByte(refused, b) >= 0 {
		return api.Set{}, r.back(from, api.ErrOther)
	}
	if r.skip('x') {
		return r.pair()
	}
	s, ok := meaning(b)
	if !ok {
		return api.Set{}, api.ErrForm
	}
	r.step(1)
	return s, api.OK
}

// pair takes the two hex digits of a byte.
func (r *reader) pair() (api.Set, api.Errno) {
	b := 0
	for range 2 {
		if r.ended() {
			return api.Set{}, api.ErrForm
		}
		v, ok := hex(r.text[r.at])
		if !ok {
			return api.Set{}, api.ErrForm
		}
		b = 16*b + v
		r.step(1)
	}
	return bytes.Of(byte(b)), api.OK
}

// hex is a hex digit's value.
func hex(b byte) (int, bool) {
	switch {
	case digit(b):
		return int(b - '0'), true
	case 'a' <= b && b <= 'f':
		return int(b-'a') + 10, true
	case 'A' <= b && b <= 'F':
		return int(b-'A') + 10, true
	}
	return 0, false
}

// meaning is what a byte stands for behind a backslash.
func meaning(b byte) (api.Set, bool) {
	if strings.IndexByte(themselves, b) >= 0 {
		return bytes.Of(b), true
	}
	if i := strings.IndexByte(letters, b); i >= 0 {
		return bytes.Of(controls[i]), true
	}
	digits := bytes.Range('0', '9')
	word := bytes.Union(digits, bytes.Fold(bytes.Range('a', 'z')), bytes.Of('_'))
	blank := bytes.Union(bytes.Range(9, 13), bytes.Of(' '))
	switch b {
	case 'd':
		return digits, true
	case 'w':
		return word, true
	case 's':
		return blank, true
	case 'D':
		return bytes.Not(digits), true
	case 'W':
		return bytes.Not(word), true
	case 'S':
		return bytes.Not(blank), true
	}
	return api.Set{}, false
}

// class takes a class.
func (r *reader) class() (api.Set, api.Errno) {
	r.step(1)
	others := r.skip('^')
	s, e := r.item()
	for e == api.OK && !r.skip(']') {
		var more api.Set
		more, e = r.item()
		s = bytes.Union(s, more)
	}
	if e != api.OK {
		return api.Set{}, e
	}
	if others {
		s = bytes.Not(s)
	}
	return s, api.OK
}

// item takes an item of a class: a part, or a range from one to another.
func (r *reader) item() (api.Set, api.Errno) {
	from := r.at
	low, e := r.part()
	if e != api.OK || !r.sees('-') {
		return low, e
	}
	if bytes.Count(low) != 1 {
		return api.Set{}, api.ErrForm
	}
	r.step(1)
	behind := r.at
	high, e := r.part()
	if e != api.OK {
		return api.Set{}, e
	}
	if bytes.Count(high) != 1 {
		return api.Set{}, r.back(behind, api.ErrForm)
	}
	s := between(low, high)
	if s == (api.Set{}) {
		return s, r.back(from, api.ErrValue)
	}
	return s, api.OK
}

// part takes a byte, or an escape, of a class.
func (r *reader) part() (api.Set, api.Errno) {
	if r.ended() {
		return api.Set{}, api.ErrForm
	}
	switch r.text[r.at] {
	case '\\':
		return r.escape()
	case '[', ']', '^', '-':
		return api.Set{}, api.ErrForm
	}
	return r.itself()
}

// between is the bytes from that of one set to that of another one, none if
// that is the lower one.
func between(low, high api.Set) api.Set {
	a, _ := bytes.First(low)
	b, _ := bytes.First(high)
	return bytes.Range(a, b)
}
