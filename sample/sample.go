// Package sample makes words and cores, for tests that hold all small ones
// against something.
package sample

import (
	"iter"

	"caltrop/api"
	"caltrop/core"
)

// Words are all words of some bytes, up to a length, the short ones first.
func Words(alphabet string, length int) []string {
	l := []string{""}
	for i := 0; i < len(l) && len(l[i]) < length; i++ {
		for k := range len(alphabet) {
			l = append(l, l[i]+alphabet[k:k+1])
		}
	}
	return l
}

// Texts goes through all texts of some parts, up to so many, those of few parts
// first.
func Texts(parts []string, most int) iter.Seq[string] {
	return func(yield func(text string) bool) {
		texts := []string{""}
		for i := range most + 1 {
			var longer []string
			for _, t := range texts {
				if !yield(t) {
					return
				}
				for _, part := range parts[:min(most-i, 1)*len(parts)] {
					longer = append(longer, t+part)
				}
			}
			texts = longer
		}
	}
}

// Cores hands on the cores of all patterns of some parts, up to so many, by all
// modes, and tells how many these are.
func Cores(parts []string, most int, each func(c *core.Node)) int {
	n := 0
	for p := range Texts(parts, most) {
		n += cores(p, each)
	}
	return n
}

// cores hands on the cores of a pattern, if it is one.
func cores(p string, each func(c *core.Node)) int {
	n := 0
	for mode := core.Full; mode <= core.Search; mode++ {
		if c, _, e := core.Parse(p, mode); e == api.OK {
			n++
			each(c)
		}
	}
	return n
}
