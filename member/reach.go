package member

import (
	"slices"

	"caltrop/auto"
	"caltrop/bytes"
)

// A trail is of each position that is met the one just ahead of it.
type trail map[int]int

// none is ahead of a first one.
const none = -1

// spread meets all positions that can be reached, the near ones first, and hands
// each on with the trail so far, as long as more is asked for.
func spread(a *auto.Auto, more func(p int, t trail) bool) {
	t := trail{}
	var line []int
	meet := func(ahead int, next []int) {
		for _, p := range alive(next) {
			_, met := t[p]
			if _, ok := bytes.First(a.Set(p)); ok && !met {
				t[p] = ahead
				line = append(line, p)
			}
		}
	}
	meet(none, a.First())
	for i := 0; i < len(line) && more(line[i], t); i++ {
		meet(line[i], a.Follow(line[i]))
	}
}

// Reached is the positions that can be reached.
func Reached(a *auto.Auto) []int {
	if a == nil {
		return nil
	}
	var l []int
	spread(a, func(p int, _ trail) bool {
		l = append(l, p)
		return true
	})
	slices.Sort(l)
	return l
}

// Shortest is a shortest word that is meant.
func Shortest(a *auto.Auto) (string, bool) {
	switch {
	case a == nil:
		return "", false
	case a.Void() > 0:
		return "", true
	}
	w, ok := "", false
	last := a.Last()
	spread(a, func(p int, t trail) bool {
		if last[p] > 0 {
			w, ok = t.word(a, p), true
		}
		return !ok
	})
	return w, ok
}

// word is the least bytes of the sets from a first position on to another one.
func (t trail) word(a *auto.Auto, p int) string {
	var w []byte
	for ; p != none; p = t[p] {
		b, _ := bytes.First(a.Set(p))
		w = append(w, b)
	}
	slices.Reverse(w)
	return string(w)
}
