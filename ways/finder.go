package ways

import (
	"math/bits"

	"caltrop/api"
	"caltrop/backtrack"
	"caltrop/core"
)

// A finder makes a list of the ways that it finds.
type finder struct {
	*List
	matcher *backtrack.Matcher
	met     map[string]int // which of the list's texts a text is
}

// find makes a finder, that has found nothing.
func find(c *core.Node, w string, limit int) (*finder, api.Errno) {
	m, e := backtrack.New(c, w, limit)
	if e != api.OK {
		return nil, e
	}
	wide := (bits.Len(uint(m.Places())) + 7) / 8
	return &finder{&List{long: len(w), wide: wide}, m, map[string]int{}}, api.OK
}

// gather finds so many ways at most, and whether there is one more.
func (f *finder) gather(n int) {
	for f.matcher.Next() {
		if f.Len() == n {
			return
		}
		f.add(f.text(f.matcher.Path()))
	}
	f.whole = !f.matcher.Stopped
}

// text is a way as a text: of each position its bytes, the great ones first.
func (f *finder) text(way []int) string {
	text := make([]byte, 0, len(way)*f.wide)
	for _, p := range way {
		for i := f.wide - 1; i >= 0; i-- {
			text = append(text, byte(p>>(8*i)))
		}
	}
	return string(text)
}

// add adds a way.
func (f *finder) add(text string) {
	i, ok := f.met[text]
	if !ok {
		i = len(f.texts)
		f.met[text] = i
		f.texts, f.times = append(f.texts, text), append(f.times, 0)
	}
	f.ways = append(f.ways, i)
	f.times[i]++
}
