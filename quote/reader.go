package quote

import "strings"

// place is where a reader stands.
type place struct {
	at int
}

// step goes on by some bytes.
func (p *place) step(n int) {
	p.at += n
}

// A reader goes through a text, and stops at the first byte that can't stand
// where it does, or at the end: so its place is that of the fault.
type reader struct {
	place
	text string
}

// word takes all of the text, and answers the bytes that it tells.
func (r *reader) word() (string, bool) {
	if strings.HasPrefix(r.text, nothing) {
		r.step(len(nothing))
		return "", r.ended()
	}
	var s []byte
	for {
		b, ok := r.one()
		if !ok {
			return "", false
		}
		s = append(s, b)
		if r.ended() {
			return string(s), true
		}
	}
}

// ended tells whether all is taken.
func (r *reader) ended() bool {
	return r.at == len(r.text)
}

// one takes what tells one byte.
func (r *reader) one() (byte, bool) {
	b, ok := r.take(shown)
	if !ok || b != '\\' {
		return b, ok
	}
	b, ok = r.take(escape)
	if !ok || b == '\\' {
		return b, ok
	}
	return r.pair()
}

// pair takes the two digits of a hidden byte: no other one is told so.
func (r *reader) pair() (byte, bool) {
	high, ok := r.digit(func(v byte) bool {
		// of 16 bytes in a row the first or the last one is hidden, if any is
		return hidden(v<<4) || hidden(v<<4|15)
	})
	if !ok {
		return 0, false
	}
	low, ok := r.digit(func(v byte) bool { return hidden(high<<4 | v) })
	if !ok {
		return 0, false
	}
	return high<<4 | low, true
}

// take takes a byte, if it may stand there.
func (r *reader) take(may func(b byte) bool) (byte, bool) {
	if r.ended() || !may(r.text[r.at]) {
		return 0, false
	}
	b := r.text[r.at]
	r.step(1)
	return b, true
}

// digit takes a hex digit, if its value may stand there, and answers that.
func (r *reader) digit(may func(v byte) bool) (byte, bool) {
	b, ok := r.take(func(b byte) bool {
		v := strings.IndexByte(digits, b)
		return v >= 0 && may(byte(v))
	})
	if !ok {
		return 0, false
	}
	return byte(strings.IndexByte(digits, b)), true
}

// escape tells whether a byte may stand behind a backslash.
func escape(b byte) bool {
	return b == '\\' || b == 'x'
}
