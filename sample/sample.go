// Package sample makes words and cores, for tests that hold all small ones
// against something.
package sample

import (
	"caltrop/api"
	"caltrop/core"
)

// Words are all words of some bytes, up to a length, the short ones first.
func Words(alphabet string, length int) []string {
	l := []string{""}
	for i := 0; i < len(l) && len(l[i]) < length; i++ {
		for k := range len(alphabet) {
			l = append(l, l[i]+alphabet[k:k+1])
		}
	}
	return l
}

// Cores hands on the cores of all patterns of some parts, up to so many, by all
// modes, and tells how many these are.
func Cores(parts []string, most int, each func(c *core.Node)) int {
	n := 0
	patterns := []string{""}
	for i := range most + 1 {
		var longer []string
		for _, p := range patterns {
			n += cores(p, each)
			for _, part := range parts[:min(most-i, 1)*len(parts)] {
				longer = append(longer, p+part)
			}
		}
		patterns = longer
	}
	return n
}

// cores hands on the cores of a pattern, if it is one.
func cores(p string, each func(c *core.Node)) int {
	n := 0
	for mode := core.Full; mode <= core.Search; mode++ {
		if c, _, e := core.Parse(p, mode); e == api.OK {
			n++
			each(c)
		}
	}
	return n
}
