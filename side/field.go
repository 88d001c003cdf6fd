// Package side holds what squares and cubes have in common: runs that go on side
// by side, by the same bytes.
package side

import (
	"iter"
	"slices"

	"caltrop/api"
	"caltrop/bytes"
)

// A Field is some positions: to which others of them each goes on, in how many
// ways, and by which bytes. It keeps what it was told, as the weights tell lists
// anew each time.
type Field struct {
	sets map[int]api.Set
	next map[int][]int
	ways map[[2]int]int
}

// Lay is the field of some positions, whose sets, and what follows them, others
// tell.
func Lay(places []int, set func(p int) api.Set, follow func(p int) []int) *Field {
	f := &Field{map[int]api.Set{}, map[int][]int{}, map[[2]int]int{}}
	for _, p := range places {
		f.sets[p] = set(p)
		row := follow(p)
		for _, q := range places {
			if q < len(row) && row[q] > 0 {
				f.next[p] = append(f.next[p], q)
				f.ways[[2]int{p, q}] = row[q]
			}
		}
	}
	return f
}

// Next goes through those to which a position goes on, rising.
func (f *Field) Next(p int) iter.Seq[int] {
	return slices.Values(f.next[p])
}

// Ways is in how many ways one position goes on to another one.
func (f *Field) Ways(p, q int) int {
	return f.ways[[2]int{p, q}]
}

// shared is the bytes that the sets of all these positions have.
func (f *Field) shared(l ...int) api.Set {
	s := bytes.All()
	for _, p := range l {
		s = bytes.Meet(s, f.sets[p])
	}
	return s
}

// Meet tells whether the sets of all these positions have a byte in common.
func (f *Field) Meet(l ...int) bool {
	return f.shared(l...) != api.Set{}
}

// Least is the least byte that the sets of all these positions have.
func (f *Field) Least(l ...int) byte {
	b, _ := bytes.First(f.shared(l...))
	return b
}
