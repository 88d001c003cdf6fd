package degree

import (
	"math"
	"slices"
	"testing"

	"caltrop/api"
	"caltrop/auto"
	"caltrop/core"
	"caltrop/nat"
	"caltrop/sample"
)

// far is a length of words at which growth shows in numbers.
const far = 48

// A front is vectors behind words of one length, without those that have no
// number above another one's: these never come to more.
type front [][]int

// below tells whether a vector has no number above another one's.
func below(v, w []int) bool {
	for p := range v {
		if v[p] > w[p] {
			return false
		}
	}
	return true
}

// add takes in a vector, if it may come to more than those that are there.
func (f front) add(v []int) front {
	for _, w := range f {
		if below(v, w) {
			return f
		}
	}
	return append(slices.DeleteFunc(f, func(w []int) bool { return below(w, v) }), v)
}

// most is the greatest sum of a vector.
func (f front) most() int {
	n := 0
	for _, v := range f {
		n = max(n, nat.Sum(v))
	}
	return n
}

// next is the front of words that have a byte more.
func (f front) next(a *auto.Auto, alphabet []byte) front {
	var l front
	for _, v := range f {
		for _, b := range alphabet {
			l = l.add(a.Step(v, b))
		}
	}
	return l
}

// mostRuns is, for each length from 1 on, the most runs that there are on a word
// of that length, or a shorter one; it ends where these are more than any that
// aren't wild come to.
func mostRuns(a *auto.Auto, length int) []int {
	var alphabet []byte
	for i := range a.Blocks().Count() {
		b, _ := a.Blocks().Least(i)
		alphabet = append(alphabet, b)
	}
	var f front
	for _, b := range alphabet {
		f = f.add(a.Begin(b))
	}
	l := []int{f.most()}
	for len(l) < length && l[len(l)-1] < 1<<32 {
		f = f.next(a, alphabet)
		l = append(l, max(f.most(), l[len(l)-1]))
	}
	return l
}

// byNumbers is the kind of growth, and the degree, by the most runs alone: with
// twice the length there are 2^d times as many, about, of degree d.
func byNumbers(a *auto.Auto) (kind, degree int) {
	l := mostRuns(a, 2*far)
	if len(l) < 2*far {
		return Wild, 0
	}
	more := math.Log2(float64(max(l[2*far-1], 1)) / float64(max(l[far-1], 1)))
	switch degree = int(math.Round(more)); {
	case degree == 0:
		return Flat, 0
	case more > 6: // more than any of so few positions
		return Wild, 0
	}
	return Steep, degree
}

// check holds a growth against the numbers.
func check(t *testing.T, c *core.Node) *Growth {
	t.Helper()
	a, e := auto.New(c)
	if e != api.OK {
		t.Fatalf("New of %s: %d", core.Text(c), e)
	}
	g := growthOf(t, core.Text(c), a)
	kind, degree := byNumbers(a)
	holdGrowth(t, core.Text(c), g, kind, degree)
	return g
}

// A count is how many cores of each sort there were.
type count struct {
	kinds  [kinds]int
	degree [8]int
}

func (n *count) add(g *Growth) {
	n.kinds[g.Kind()]++
	d, _ := g.Degree()
	n.degree[d]++
}

// few tells whether there were too few of a sort.
func (n *count) few(kind, degree int) bool {
	return slices.Min(n.kinds[:]) < kind || slices.Min(n.degree[:4]) < degree
}

// All patterns of a few parts grow as the numbers tell, by all modes.
func TestAllShortPatterns(t *testing.T) {
	n := &count{}
	sample.Cores([]string{"a*", "[ab]*", "b?", "(a", "|a", ")*", "{1,2}", "ab+", emptySet}, 4, func(c *core.Node) {
		if len(core.Sets(c)) <= 5 {
			n.add(check(t, c))
		}
	})
	if n.few(250, 200) {
		t.Errorf("too few of a sort: %v", *n)
	}
}

// row is Stars, one behind the other, and something between.
func row(seed, stars int) *core.Node {
	c := sample.Core(seed, 1+seed%2)
	for i := range stars {
		star := &core.Node{Kind: core.Star, A: sample.Core(7*seed+i, 1+seed%3)}
		c = &core.Node{Kind: core.Cat + (seed+5*i)%9/8, A: c, B: star}
	}
	return c
}

func TestCoresAtRandom(t *testing.T) {
	n := &count{}
	for seed := range 8000 {
		c := row(seed, 1+seed%6)
		if len(core.Sets(c)) <= 6 {
			n.add(check(t, c))
		}
	}
	if n.few(500, 100) {
		t.Errorf("too few of a sort: %v", *n)
	}
}
