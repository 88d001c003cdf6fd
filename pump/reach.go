package pump

import (
	"slices"
	"strings"

	"caltrop/auto"
	"caltrop/bytes"
)

// A trail meets an automaton's positions, the near ones first.
type trail struct {
	*auto.Auto
	ahead map[int]int // of each position that was met the one ahead of it
	line  []int       // the positions, as they were met
}

// none is ahead of a first position.
const none = -1

// Reach is a shortest word on which a run ends with a position.
func Reach(a *auto.Auto, p int) (string, bool) {
	if a == nil {
		return "", false
	}
	t := &trail{Auto: a, ahead: map[int]int{}}
	t.meet(none, t.First())
	for i := 0; i < len(t.line) && !t.met(p); i++ {
		t.meet(t.line[i], t.Follow(t.line[i]))
	}
	if !t.met(p) {
		return "", false
	}
	return t.word(p), true
}

// meet meets what comes behind a position, or first: what has a byte to be read,
// and a number above 0 in a list.
func (t *trail) meet(ahead int, next []int) {
	for p, n := range next {
		if n > 0 && !t.met(p) && bytes.Count(t.Set(p)) > 0 {
			t.ahead[p] = ahead
			t.line = append(t.line, p)
		}
	}
}

// met tells whether a position was met.
func (t *trail) met(p int) bool {
	_, ok := t.ahead[p]
	return ok
}

// word is a word by which a position was met.
func (t *trail) word(p int) string {
	var way []int
	for ; p != none; p = t.ahead[p] {
		way = append(way, p)
	}
	var w strings.Builder
	for _, q := range slices.Backward(way) {
		b, _ := bytes.First(t.Set(q))
		w.WriteByte(b)
	}
	return w.String()
}
