package stop

import (
	"slices"

	"caltrop/api"
	"caltrop/auto"
	"caltrop/member"
)

// A trail meets sets of positions, as many as its budget at most, up to the first
// one of which none may be the last one.
type trail struct {
	*auto.Auto
	budget int
	met    []found
	known  map[string]struct{}
}

// A found set of positions is told as a text, that is its key, too.
type found struct {
	text  string
	ahead int  // the set that it was met behind, or nothing
	by    byte // the byte by which it was met
}

// nothing is ahead of the first set.
const nothing = -1

// find meets sets, from some positions on, and tells how it ended: OK, if the last
// one that was met is stopped.
func (t *trail) find(from []int) api.Errno {
	bytes := t.bytes()
	e := t.meet(t.places(from), nothing, 0)
	for i := 0; e == api.ErrNone && i < len(t.met); i++ {
		e = t.behind(i, bytes)
	}
	return e
}

// bytes are the least bytes of all blocks: those of one block are alike.
func (t *trail) bytes() []byte {
	blocks := t.Blocks()
	var l []byte
	for i := range blocks.Count() {
		b, _ := blocks.Least(i)
		l = append(l, b)
	}
	return l
}

// places is some positions, rising, each once, without what is none.
func (t *trail) places(l []int) []int {
	l = slices.DeleteFunc(slices.Clone(l), func(p int) bool { return p < 0 || p >= t.Places() })
	slices.Sort(l)
	return slices.Compact(l)
}

// behind meets what is behind a set by a byte more, and tells how it ended; ErrNone,
// if it didn't.
func (t *trail) behind(ahead int, bytes []byte) api.Errno {
	l := positions(t.met[ahead].text)
	for _, b := range bytes {
		if e := t.meet(member.Next(t.Auto, l, b), ahead, b); e != api.ErrNone {
			return e
		}
	}
	return api.ErrNone
}

// meet takes in a set, if it is a new one, and tells how it ended; ErrNone, if it
// didn't.
func (t *trail) meet(l []int, ahead int, by byte) api.Errno {
	key := text(l)
	if _, ok := t.known[key]; ok {
		return api.ErrNone
	}
	if len(t.met) == t.budget {
		return api.ErrFull
	}
	t.known[key] = struct{}{}
	t.met = append(t.met, found{key, ahead, by})
	if member.Ends(t.Auto, l) {
		return api.ErrNone
	}
	return api.OK
}

// word is the word by which the last set was met.
func (t *trail) word() string {
	var w []byte
	for x := t.met[len(t.met)-1]; x.ahead != nothing; x = t.met[x.ahead] {
		w = append(w, x.by)
	}
	slices.Reverse(w)
	return string(w)
}

// digit is how many positions two bytes tell apart by the second one.
const digit = 256

// text tells a set of positions, each by two bytes: there are at most MaxPlaces.
func text(l []int) string {
	t := make([]byte, 0, 2*len(l))
	for _, p := range l {
		t = append(t, byte(p/digit), byte(p%digit))
	}
	return string(t)
}

// positions is the set that a text tells.
func positions(t string) []int {
	var l []int
	for i := 0; i < len(t); i += 2 {
		l = append(l, digit*int(t[i])+int(t[i+1]))
	}
	return l
}
