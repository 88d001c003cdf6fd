package member

import (
	"slices"

	"caltrop/api"
	"caltrop/auto"
	"caltrop/bytes"
)

// never is where what isn't there begins.
const never = api.Most

// A search goes through a word once, for all its parts: of each position it keeps
// where the first of these begins that may end with it, as of two that go on from
// one position the later one can't win.
type search struct {
	sets        []api.Set
	first, last []int
	next        [][]int // of each position those that may come behind it
	begins      []int   // of each position where a part that ends with it begins; of none till the first byte
	from, to    int     // the best part so far: one that begins no earlier is given up
}

// find makes a search ahead of a word.
func find(a *auto.Auto) *search {
	s := &search{first: alive(a.First()), last: a.Last(), from: never}
	for p := range a.Places() {
		s.sets = append(s.sets, a.Set(p))
		s.next = append(s.next, alive(a.Follow(p)))
	}
	return s
}

// step goes on by a byte, that stands at a place.
func (s *search) step(b byte, at int) {
	begins := slices.Repeat([]int{never}, len(s.sets))
	s.lead(begins, s.first, b, at)
	for p, from := range s.begins {
		s.lead(begins, s.next[p], b, from)
	}
	for p, from := range begins {
		if from < s.from && s.last[p] > 0 {
			s.from, s.to = from, at+1
		}
	}
	s.begins = begins
}

// lead lets a part that begins at a place go on to some positions by a byte.
func (s *search) lead(begins, to []int, b byte, from int) {
	if from >= s.from {
		return
	}
	for _, p := range to {
		if bytes.Has(s.sets[p], b) {
			begins[p] = min(begins[p], from)
		}
	}
}

// done tells whether nothing that is alive can win any more.
func (s *search) done() bool {
	return s.from < never && slices.Min(s.begins) >= s.from
}

// Within is the first part of a word that is meant.
func Within(a *auto.Auto, w string) (int, int, bool) {
	switch {
	case a == nil:
		return 0, 0, false
	case a.Void() > 0: // the empty part at 0
		return 0, 0, true
	}
	s := find(a)
	for at := 0; at < len(w) && !s.done(); at++ {
		s.step(w[at], at)
	}
	if s.from == never {
		return 0, 0, false
	}
	return s.from, s.to, true
}
