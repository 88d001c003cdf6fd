// Package bytes is layer 1: sets of bytes.
package bytes

import (
	"math/bits"

	"caltrop/api"
)

// A set's word 1 has all letters: its bits 1 to 26 are A to Z, and the small
// ones stand cases bits above these.
const (
	letters = 1
	large   = (1<<26 - 1) << ('A' - 64)
	cases   = 'a' - 'A'
)

// Of is some bytes.
func Of(l ...byte) api.Set {
	var s api.Set
	for _, b := range l {
		s[b/64] |= 1 << (b % 64)
	}
	return s
}

// Range is the bytes of a range.
func Range(lo, hi byte) api.Set {
	return Minus(from(lo), above(hi))
}

// from is the bytes from one on.
func from(b byte) api.Set {
	var s api.Set
	s[b/64] = ^uint64(0) << (b % 64)
	for i := b/64 + 1; i < 4; i++ {
		s[i] = ^uint64(0)
	}
	return s
}

// above is the bytes behind one.
func above(b byte) api.Set {
	return Minus(from(b), Of(b))
}

// All is all bytes.
func All() api.Set {
	return Not(api.Set{})
}

// Has tells whether a byte is in a set.
func Has(s api.Set, b byte) bool {
	return s[b/64]>>(b%64)&1 == 1
}

// Union is the bytes of some sets.
func Union(l ...api.Set) api.Set {
	var all api.Set
	for _, s := range l {
		for i := range all {
			all[i] |= s[i]
		}
	}
	return all
}

// Meet is the bytes that both have.
func Meet(a, b api.Set) api.Set {
	for i := range a {
		a[i] &= b[i]
	}
	return a
}

// Minus is the bytes of one that another one hasn't.
func Minus(a, b api.Set) api.Set {
	return Meet(a, Not(b))
}

// Not is the bytes that a set hasn't.
func Not(a api.Set) api.Set {
	for i := range a {
		a[i] = ^a[i]
	}
	return a
}

// Within tells whether a set has all of another one.
func Within(a, b api.Set) bool {
	return Meet(a, b) == a
}

// Fold is a set with both cases of its letters.
func Fold(a api.Set) api.Set {
	w := a[letters]
	a[letters] |= (w&large)<<cases | (w>>cases)&large
	return a
}

// Count is how many bytes a set has.
func Count(a api.Set) int {
	n := 0
	for _, w := range a {
		n += bits.OnesCount64(w)
	}
	return n
}

// List is a set's bytes, rising.
func List(a api.Set) []byte {
	var l []byte
	for b := range 256 {
		if Has(a, byte(b)) {
			l = append(l, byte(b))
		}
	}
	return l
}

// First is a set's least byte.
func First(a api.Set) (byte, bool) {
	for i, w := range a {
		if w != 0 {
			return byte(64*i + bits.TrailingZeros64(w)), true
		}
	}
	return 0, false
}

// Ranges is a set as ranges.
func Ranges(a api.Set) [][2]byte {
	var l [][2]byte
	for lo, ok := First(a); ok; lo, ok = First(a) {
		hi := end(a, lo)
		l = append(l, [2]byte{lo, hi})
		a = Minus(a, Range(lo, hi))
	}
	return l
}

// end is the last byte up to which a set has all from one on.
func end(a api.Set, lo byte) byte {
	gap, ok := First(Minus(from(lo), a))
	if !ok {
		return 255
	}
	return gap - 1
}

// From is the bytes of ranges.
func From(l ...[2]byte) api.Set {
	var s api.Set
	for _, r := range l {
		s = Union(s, Range(r[0], r[1]))
	}
	return s
}
