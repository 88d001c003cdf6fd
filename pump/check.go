package pump

import (
	"caltrop/auto"
	"caltrop/degree"
)

// longest is how many bytes a prefix, or a pump, has at most.
const longest = 10000

// Check tells whether a family is an automaton's.
func Check(a *auto.Auto, f Family) bool {
	if f.Y == "" || len(f.X) > longest || len(f.Y) > longest || runs(a.Vector(f.X), f.P) == 0 {
		return false
	}
	switch f.Kind {
	case degree.Wild:
		return f.P == f.Q && runs(pumped(a, f.P, f.Y), f.P) > 1
	case degree.Steep:
		return f.P != f.Q && feeds(a, f)
	}
	return false
}

// feeds tells whether a family's first position feeds the second one by the pump.
func feeds(a *auto.Auto, f Family) bool {
	v := pumped(a, f.P, f.Y)
	return runs(v, f.P) > 0 && runs(v, f.Q) > 0 && runs(pumped(a, f.Q, f.Y), f.Q) > 0
}

// runs is how many runs of a vector end with a position; none with what is none.
func runs(v []int, p int) int {
	if p < 0 || p >= len(v) {
		return 0
	}
	return v[p]
}

// pumped is the vector behind a pump, from one run on that ends with a position
// that is there.
func pumped(a *auto.Auto, p int, y string) []int {
	v := a.Vector("")
	v[p] = 1
	for i := range len(y) {
		v = a.Step(v, y[i])
	}
	return v
}
