package sample

import (
	"caltrop/api"
	"caltrop/bytes"
	"caltrop/core"
)

// A dice falls the same way each time, for each seed.
type dice struct {
	seed uint64
}

// Core is a core of about so many nodes, of the bytes a to c, the same each time
// for each seed.
func Core(seed, size int) *core.Node {
	d := &dice{uint64(seed)}
	for range 4 { // seeds that are near one another begin alike
		d.under(1)
	}
	return d.core(1 + d.under(size))
}

// under is a number from 0 on, below another one.
func (d *dice) under(n int) int {
	d.seed = d.seed*6364136223846793005 + 1442695040888963407
	return int(d.seed>>33) % n
}

// core is a core of about so many nodes.
func (d *dice) core(size int) *core.Node {
	switch {
	case size > 1 && d.under(5) == 0:
		return &core.Node{Kind: core.Star, Lazy: d.under(2) == 0, A: d.core(size - 1)}
	case size > 1:
		left := 1 + d.under(size)
		return &core.Node{Kind: core.Cat + d.under(3)/2, A: d.core(left), B: d.core(max(1, size-left))}
	case d.under(8) == 0:
		return &core.Node{}
	case d.under(16) == 0:
		return &core.Node{Kind: core.Set}
	}
	return &core.Node{Kind: core.Set, Set: d.set()}
}

// set is one byte mostly, or two.
func (d *dice) set() api.Set {
	lo := byte('a' + d.under(2))
	return bytes.Range(lo, lo+byte(d.under(3)/2))
}
