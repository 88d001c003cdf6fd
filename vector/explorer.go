package vector

import (
	"slices"

	"caltrop/nat"
)

// An explorer meets vectors, as many as its budget at most. It alone has to know
// which ones it met.
type explorer struct {
	*Vectors
	budget int
	known  map[string]struct{}
}

// explore meets all vectors, and tells whether it could.
func (x *explorer) explore() bool {
	bytes := x.bytes()
	ok := x.behind(nothing, bytes, x.Begin)
	for i := 0; ok && i < len(x.list); i++ {
		v := numbers(x.list[i].text)
		ok = x.behind(i, bytes, func(b byte) []int { return x.Step(v, b) })
	}
	return ok
}

// bytes are the least bytes of all blocks: those of one block are alike.
func (x *explorer) bytes() []byte {
	blocks := x.Blocks()
	var l []byte
	for i := range blocks.Count() {
		b, _ := blocks.Least(i)
		l = append(l, b)
	}
	return l
}

// behind meets what is behind a vector, or nothing, by one byte more, and tells
// whether it could.
func (x *explorer) behind(ahead int, bytes []byte, step func(b byte) []int) bool {
	for _, b := range bytes {
		if !x.meet(step(b), ahead, b) {
			return false
		}
	}
	return true
}

// meet takes in a vector, if it is a new one, and tells whether it could.
func (x *explorer) meet(v []int, ahead int, by byte) bool {
	sum := nat.Sum(v)
	if sum == 0 {
		return true
	}
	t := text(v)
	if _, ok := x.known[t]; ok {
		return true
	}
	if len(x.list) == x.budget || slices.ContainsFunc(v, nat.Full) {
		return false
	}
	if sum > x.most {
		x.most, x.first = sum, len(x.list)
	}
	for p, n := range v {
		x.greatest[p] = max(x.greatest[p], n)
	}
	x.known[t] = struct{}{}
	x.list = append(x.list, found{t, ahead, by})
	return true
}
