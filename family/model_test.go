package family

import (
	"slices"
	"strings"
	"testing"

	"caltrop/api"
	"caltrop/core"
	"caltrop/match"
	"caltrop/sample"
	"caltrop/verdict"
)

// A count is how many rows of each sort there were.
type count struct {
	stopped, found, missed int
	steep, stops           int // of all rows, those of such a record
}

// add counts a row.
func (n *count) add(r verdict.Record, x Row) {
	switch {
	case x.Stopped:
		n.stopped++
	case x.Found:
		n.found++
	default:
		n.missed++
	}
	if r.Kind == 1 {
		n.steep++
	}
	if r.Stops {
		n.stops++
	}
}

// enough tells whether there were enough of each sort.
func (n *count) enough(least int) bool {
	return min(n.stopped, n.found, n.missed, n.steep, n.stops) >= least
}

// rowOf is a row by the matcher alone: it has all hits, if it goes on behind each
// that is found.
func rowOf(t *testing.T, c *core.Node, r verdict.Record, k int) Row {
	t.Helper()
	w := r.X + strings.Repeat(r.Y, k) + r.Z
	all, first := match.All(c, w, 1<<40), match.First(c, w, 1<<40)
	if all.Stopped || first.Stopped {
		t.Fatalf("%s on %q: %v, %v", core.Text(c), w, all, first)
	}
	floor := []int{k * (k + 1) / 2, 1 << k}[r.Kind-1]
	return Row{k, len(w), floor, all.Hits, first.Hits, false, first.Found}
}

// upTo is a row with a limit, by that without one.
func upTo(x Row, limit int) Row {
	if x.Steps > limit {
		x.Steps, x.Stopped, x.Found = limit, true, false
	}
	return x
}

// hold holds what is shown of a verdict against the model, and that it holds.
func hold(t *testing.T, p string, mode int, r verdict.Record, n *count) {
	t.Helper()
	c, _, _ := core.Parse(p, mode)
	ks := []int{0, 4, 1, 3, 3}
	var rows []Row
	for _, k := range ks {
		rows = append(rows, rowOf(t, c, r, k))
	}
	for _, limit := range []int{0, 1, 20, rows[1].Steps - 1, rows[1].Steps, 1 << 40} {
		var want []Row
		for _, x := range rows {
			want = append(want, upTo(x, limit))
		}
		l, e := Show(p, mode, r, limit, ks...)
		if !slices.Equal(l, want) || e != api.OK {
			t.Fatalf("Show(%q, %d, %v, %d): %v, %d, not %v", p, mode, r, limit, l, e, want)
		}
		if !Holds(r, l) {
			t.Fatalf("%q, %d, %v: %v doesn't hold", p, mode, r, l)
		}
		for _, x := range l {
			n.add(r, x)
		}
	}
}

// holdOthers holds that a record isn't shown to hold, where it says too much: that
// what is found is stopped, or that there are more hits than there are.
func holdOthers(t *testing.T, p string, mode int, r verdict.Record) {
	t.Helper()
	l, _ := Show(p, mode, r, 1<<40, 0, 3, 5)
	found := slices.ContainsFunc(l, func(x Row) bool { return x.Found })
	r.Stops = true
	if Holds(r, l) == found {
		t.Fatalf("%q, %d, %v: %v, and it stops", p, mode, r, l)
	}
	for i := range l {
		l[i].Floor = l[i].Hits + 1
		if Holds(r, l) {
			t.Fatalf("%q, %d, %v: %v holds", p, mode, r, l)
		}
		l[i].Floor = l[i].Hits
	}
}

// holdPattern holds what is shown of a pattern, by all modes, with budgets by which
// there is a tail mostly, and by which there is none.
func holdPattern(t *testing.T, p string, n *count) {
	t.Helper()
	for mode := core.Full; mode <= core.Search; mode++ {
		need, ok := verdict.Need(p, mode)
		if !ok {
			continue
		}
		var ahead verdict.Record
		for _, budget := range []int{need, 5000} {
			r := verdict.Analyse(p, mode, budget)
			if r == ahead {
				continue
			}
			ahead = r
			if r.Kind == 0 {
				if l, e := Show(p, mode, r, 10, 1); l != nil || e != api.ErrNone {
					t.Fatalf("Show(%q, %d, %v): %v, %d", p, mode, r, l, e)
				}
				continue
			}
			hold(t, p, mode, r, n)
			holdOthers(t, p, mode, r)
		}
	}
}

// P23.3: what Analyse tells of all patterns of a few parts holds.
func TestAllShortPatterns(t *testing.T) {
	n := &count{}
	for p := range sample.Texts([]string{"a*", "[ab]*?", "b?", "(a", "|a", ")*", ".*"}, 4) {
		holdPattern(t, p, n)
	}
	if !n.enough(500) {
		t.Errorf("too few of a sort: %+v", *n)
	}
}

func TestSomePatterns(t *testing.T) {
	n := &count{}
	for _, p := range []string{
		"(a*)*b", "a*a*", "a*a*a*", "(a|b)*a(a|b)*", "(a|aa)*c", "x*(ab|a|b)*y", "a*b?a*", "(x+x+)+y", "([a-z]+)*\\d", "(ab?|c?b)*d",
		"\\x00*\\x00*\\xff", "(a|b|ab)*?bc", ".*a.*b", "(.*)(.*)x", "([^a]|b)*a",
	} {
		holdPattern(t, p, n)
	}
	if !n.enough(50) {
		t.Errorf("too few of a sort: %+v", *n)
	}
}

// The greatest ones are done in time.
func TestGreat(t *testing.T) {
	for _, p := range []string{"(" + strings.Repeat("a|", 58) + "a)*b", strings.Repeat("a*", 23) + "b", "(a*)*b"} {
		r := verdict.Analyse(p, core.Full, 1<<30)
		most := (10000 - len(r.X) - len(r.Z)) / len(r.Y)
		l, e := Show(p, core.Full, r, 1000000, most, most-1, 100)
		if e != api.OK || len(l) != 3 || !Holds(r, l) || !l[0].Stopped {
			t.Errorf("Show(%.40s): %v, %d", p, l, e)
		}
	}
}
