// Package quote is layer 2: bytes as words of a text.
package quote

import (
	"strconv"
	"strings"

	"caltrop/api"
)

const (
	nothing = `\e` // the word of no bytes
	digits  = "0123456789abcdef"
)

// hidden tells whether a byte is told by its digits.
func hidden(b byte) bool {
	return b < 33 || b > 126
}

// shown tells whether a byte may itself stand in a word.
func shown(b byte) bool {
	return !hidden(b)
}

// Write is the word of bytes.
func Write(s string) string {
	if s == "" {
		return nothing
	}
	w := make([]byte, 0, len(s))
	for i := range len(s) {
		switch b := s[i]; {
		case hidden(b):
			w = append(w, '\\', 'x', digits[b>>4], digits[b&15])
		case b == '\\':
			w = append(w, '\\', '\\')
		default:
			w = append(w, b)
		}
	}
	return string(w)
}

// Read is the bytes of a word.
func Read(w string) (string, int, api.Errno) {
	r := reader{text: w}
	s, ok := r.word()
	if !ok {
		return "", r.at, api.ErrForm
	}
	return s, len(s), api.OK
}

// Number is a number, told.
func Number(n int) string {
	return strconv.Itoa(n)
}

// Parse is the number that is told so.
func Parse(w string) (int, api.Errno) {
	n, err := strconv.Atoi(w)
	if err != nil || Number(n) != w { // Atoi takes +1, 01 and -0 as well
		return 0, api.ErrForm
	}
	return n, api.OK
}

// Words is words with blanks between.
func Words(l ...string) string {
	return strings.Join(l, " ")
}

// Split is the words of a line.
func Split(line string) []string {
	return strings.Split(line, " ")
}
