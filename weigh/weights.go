package weigh

import "caltrop/nat"

// weights are of positions their numbers, all above 0; a position that isn't
// there has 0. Several cores may have the same ones: they are never changed once
// they are made.
type weights map[int]int

// A term is weights, so many times, of positions that stand so much further on.
type term struct {
	of    weights
	times int
	on    int
}

// counts tells whether there is something in a term.
func (t term) counts() bool {
	return t.times > 0 && len(t.of) > 0
}

// sum is the sum of two terms.
func sum(a, b term) weights {
	switch {
	case !a.counts():
		return b.alone()
	case !b.counts():
		return a.alone()
	}
	s := make(weights, len(a.of)+len(b.of))
	a.addTo(s)
	b.addTo(s)
	return s
}

// alone is what a term tells alone. Weights that it tells as they are needn't be
// made anew: of many nodes upon one another most have those of the one below.
func (t term) alone() weights {
	switch {
	case !t.counts():
		return nil
	case t.times == 1 && t.on == 0:
		return t.of
	}
	s := make(weights, len(t.of))
	t.addTo(s)
	return s
}

// addTo adds a term to weights that are being made.
func (t term) addTo(s weights) {
	for p, n := range t.of {
		s[p+t.on] = nat.Add(s[p+t.on], nat.Mul(t.times, n))
	}
}

// list is the weights of so many positions, one by one.
func (w weights) list(places int) []int {
	l := make([]int, places)
	for p, n := range w {
		l[p] = n
	}
	return l
}

// heavy tells whether one of the weights is above 1.
func (w weights) heavy() bool {
	for _, n := range w {
		if n > 1 {
			return true
		}
	}
	return false
}
