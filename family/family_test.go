package family

import (
	"math"
	"slices"
	"strings"
	"testing"

	"caltrop/api"
	"caltrop/core"
	"caltrop/verdict"
)

// as is the letter a, so many times.
func as(n int) string {
	return strings.Repeat("a", n)
}

// P23.1

func TestShow(t *testing.T) {
	wild := verdict.Analyse("(a*)*b", core.Full, 100)
	steep := verdict.Analyse("a*a*", core.Full, 100)
	goes := verdict.Analyse("(a*)*", core.Full, 1)
	for _, x := range []struct {
		p     string
		mode  int
		r     verdict.Record
		limit int
		ks    []int
		l     []Row
	}{
		{"(a*)*b", core.Full, wild, 10, nil, nil},
		{"(a*)*b", core.Full, wild, 10, []int{0, 3}, []Row{
			{K: 0, Len: 1, Floor: 1, Hits: 1, Steps: 1},
			{K: 3, Len: 4, Floor: 8, Hits: 15, Steps: 10, Stopped: true},
		}},
		{"(a*)*b", core.Full, wild, 15, []int{3, 4, 3, 0}, []Row{ // as they are handed in
			{K: 3, Len: 4, Floor: 8, Hits: 15, Steps: 15},
			{K: 4, Len: 5, Floor: 16, Hits: 31, Steps: 15, Stopped: true},
			{K: 3, Len: 4, Floor: 8, Hits: 15, Steps: 15},
			{K: 0, Len: 1, Floor: 1, Hits: 1, Steps: 1},
		}},
		{"(a*)*b", core.Full, wild, 0, []int{1}, []Row{{K: 1, Len: 2, Floor: 2, Hits: 3, Stopped: true}}},
		{"(a*)*b", core.Full, wild, 100, []int{61, 62, 63, 9999}, []Row{ // numbers that end at the greatest
			{K: 61, Len: 62, Floor: 1 << 61, Hits: 1<<62 - 1, Steps: 100, Stopped: true},
			{K: 62, Len: 63, Floor: 1 << 62, Hits: 1<<63 - 1, Steps: 100, Stopped: true},
			{K: 63, Len: 64, Floor: api.Most, Hits: api.Most, Steps: 100, Stopped: true},
			{K: 9999, Len: 10000, Floor: api.Most, Hits: api.Most, Steps: 100, Stopped: true},
		}},
		{"a*a*", core.Full, steep, 1000, []int{3, 10}, []Row{ // with a tail
			{K: 3, Len: 5, Floor: 6, Hits: 14, Steps: 14},
			{K: 10, Len: 12, Floor: 55, Hits: 77, Steps: 77},
		}},
		{"(a*)*", core.Full, goes, 1000, []int{0, 3}, []Row{ // without one
			{K: 0, Len: 1, Floor: 1, Hits: 1, Steps: 1, Found: true},
			{K: 3, Len: 4, Floor: 8, Hits: 15, Steps: 4, Found: true},
		}},
		{"(a*)*", core.Full, goes, 3, []int{3}, []Row{{K: 3, Len: 4, Floor: 8, Hits: 15, Steps: 3, Stopped: true}}},
		{"a*", core.Full, wild, 1000, []int{3}, []Row{{K: 3, Len: 4, Floor: 8, Hits: 4, Steps: 4, Found: true}}}, // of another pattern
		{"b", core.Full, wild, 1000, []int{3}, []Row{{K: 3, Len: 4, Floor: 8}}},
		{"b", core.Search, wild, 1000, []int{1}, []Row{{K: 1, Len: 2, Floor: 2, Hits: 2, Steps: 2}}},
		{"b", core.Prefix, verdict.Record{Kind: 1, X: "x", Y: "yb", Z: "z"}, 1000, []int{2}, []Row{{K: 2, Len: 6, Floor: 3}}},
		{"b*?", core.Full, verdict.Record{Kind: 2, Y: "b"}, math.MaxInt, []int{0, 2}, []Row{
			{K: 0, Len: 0, Floor: 1, Found: true},
			{K: 2, Len: 2, Floor: 4, Hits: 2, Steps: 2, Found: true},
		}},
	} {
		before := slices.Clone(x.ks)
		l, e := Show(x.p, x.mode, x.r, x.limit, x.ks...)
		if !slices.Equal(l, x.l) || e != api.OK || !slices.Equal(x.ks, before) {
			t.Errorf("Show(%s, %d, %v, %d, %v): %v, %d, not %v", x.p, x.mode, x.r, x.limit, before, l, e, x.l)
		}
	}
}

// What is named first is told, if several things can't be.
func TestShowErrors(t *testing.T) {
	none := verdict.Record{}
	some := verdict.Record{Kind: 2, X: "a", Y: "a", Stops: true}
	far := verdict.Record{Kind: 1, X: as(api.MaxText / 2), Y: "a", Z: as(api.MaxText/2 + 1)}
	for _, x := range []struct {
		p     string
		mode  int
		r     verdict.Record
		limit int
		ks    []int
		e     api.Errno
	}{
		{"a", 4, some, 10, []int{1}, api.ErrArg}, // the automaton's
		{"a", -1, none, 10, []int{1}, api.ErrArg},
		{"(a", core.Full, some, 10, []int{1}, api.ErrForm},
		{"(a", core.Full, none, -1, []int{-1}, api.ErrForm},
		{"(?=a)", core.Full, far, -1, []int{math.MaxInt}, api.ErrOther},
		{"a{3,2}", core.Search, none, 10, nil, api.ErrValue},
		{"a{601}", core.Full, none, -1, nil, api.ErrLong},
		{"(a{100}){100}", core.Full, none, -1, nil, api.ErrLong},
		{as(api.MaxText + 1), core.Full, none, -1, nil, api.ErrLong},
		{"a", core.Full, none, 10, nil, api.ErrNone}, // no family
		{"a", core.Full, none, -1, []int{-1}, api.ErrNone},
		{"a", core.Full, verdict.Record{Kind: 3, X: "a", Y: "a"}, 10, []int{1}, api.ErrNone},
		{"a", core.Full, verdict.Record{Kind: 0, X: "a", Y: "a"}, 10, []int{1}, api.ErrNone},
		{"a", core.Full, verdict.Record{Kind: 2, X: "a"}, 10, []int{1}, api.ErrNone},
		{"a", core.Full, verdict.Record{Err: api.ErrArg, Kind: 2, X: "a", Y: "a"}, 10, []int{1}, api.ErrNone},
		{"a", core.Full, verdict.Record{X: far.X, Z: far.Z}, -1, []int{1}, api.ErrNone},
		{"a", core.Full, far, 10, nil, api.ErrLong}, // ends that are too long
		{"a", core.Full, far, -1, []int{-1}, api.ErrLong},
		{"a", core.Full, verdict.Record{Kind: 2, X: as(api.MaxText + 1), Y: "a"}, -1, []int{0}, api.ErrLong},
		{"a", core.Full, verdict.Record{Kind: 2, Y: "a", Z: as(api.MaxText + 1)}, 10, []int{-1}, api.ErrLong},
		{"a", core.Full, some, -1, nil, api.ErrArg}, // numbers
		{"a", core.Full, some, math.MinInt, []int{1}, api.ErrArg},
		{"a", core.Full, some, 10, []int{-1}, api.ErrArg},
		{"a", core.Full, some, 10, []int{0, 1, math.MinInt}, api.ErrArg},
		{"a", core.Full, some, -1, []int{math.MaxInt}, api.ErrArg},
		{"a", core.Full, some, 10, []int{math.MaxInt, -1}, api.ErrArg},
		{"a", core.Full, some, 10, []int{10000, -1}, api.ErrArg},
		{"a", core.Full, some, 10, []int{10000}, api.ErrLong}, // a word that is too long
		{"a", core.Full, some, 10, []int{0, 10000, 1}, api.ErrLong},
		{"a", core.Full, some, 10, []int{math.MaxInt}, api.ErrLong},
		{"a", core.Full, some, math.MaxInt, []int{0, math.MaxInt}, api.ErrLong},
	} {
		if l, e := Show(x.p, x.mode, x.r, x.limit, x.ks...); l != nil || e != x.e {
			t.Errorf("Show(%.20q, %d, %.80v, %d, %v): %v, %d, not %d", x.p, x.mode, x.r, x.limit, x.ks, l, e, x.e)
		}
	}
}

// A word may have 10000 bytes, its tail among them.
func TestLongest(t *testing.T) {
	for _, x := range []struct {
		x, y, z string
		k       int
		ok      bool
	}{
		{"a", "a", "", 9999, true},
		{"a", "a", "", 10000, false},
		{"a", "a", "b", 9998, true},
		{"a", "a", "b", 9999, false},
		{"", "abc", "", 3333, true},
		{"", "abc", "b", 3333, true},
		{"", "abc", "bc", 3333, false},
		{"", "abc", "", 3334, false},
		{"a", as(10000), "b", 0, true},
		{"a", as(10000), "", 1, false},
		{"", as(10000), "", 1, true},
		{"", as(10000), "", 2, false},
		{"", as(10001), "", 1, false},
		{as(5000), "a", as(5000), 0, true},
		{as(5000), "a", as(5000), 1, false},
		{as(5000), "a", as(5001), 0, false},
		{as(5000), as(5000), as(5001), 0, false},
		{as(10001), "a", "", 0, false},
		{"", "a", as(api.MaxText), 0, false},
		{"a", "ab", "", math.MaxInt / 2, false}, // more than an int tells
		{"a", "abcd", "", math.MaxInt/2 + 1, false},
	} {
		r := verdict.Record{Kind: 1, X: x.x, Y: x.y, Z: x.z}
		l, e := Show("b", core.Full, r, 10, x.k)
		if !x.ok {
			if l != nil || e != api.ErrLong {
				t.Errorf("%d, %d times %d, %d: %v, %d", len(x.x), x.k, len(x.y), len(x.z), l, e)
			}
		} else if e != api.OK || len(l) != 1 || l[0].Len != len(x.x)+x.k*len(x.y)+len(x.z) {
			t.Errorf("%d, %d times %d, %d: %v, %d", len(x.x), x.k, len(x.y), len(x.z), l, e)
		}
		if l, e := Show("b", core.Full, r, 10); l != nil || e != api.OK { // there is no word
			t.Errorf("%d, %d, %d: %v, %d", len(x.x), len(x.y), len(x.z), l, e)
		}
	}
}

func TestHolds(t *testing.T) {
	goes := verdict.Record{Kind: 2, X: "a", Y: "a"}
	stops := verdict.Record{Kind: 2, X: "a", Y: "a", Stops: true}
	const neither, both, first = 0, 2, 1 // by which record it holds: first, if it doesn't stop
	for _, x := range []struct {
		row Row
		by  int
	}{
		{Row{}, both},
		{Row{Floor: 8, Hits: 8, Steps: 8}, both},
		{Row{Floor: 8, Hits: 9, Steps: 9}, both},
		{Row{Floor: 8, Hits: 7, Steps: 7}, neither}, // below the floor
		{Row{Floor: 8, Hits: 7, Steps: 7, Found: true}, neither},
		{Row{Floor: 8, Hits: 7, Steps: 7, Stopped: true}, neither},
		{Row{Floor: 8, Hits: 9, Steps: 9, Found: true}, first}, // found
		{Row{Floor: 8, Hits: 9, Steps: 5, Found: true}, first},
		{Row{Floor: 8, Hits: 9, Steps: 5, Found: true, Stopped: true}, first},
		{Row{Floor: 8, Hits: 9, Steps: 8}, first}, // other hits
		{Row{Floor: 8, Hits: 9, Steps: 10}, first},
		{Row{Floor: 8, Hits: 9}, first},
		{Row{Floor: 8, Hits: 9, Steps: 5, Stopped: true}, both}, // stopped ahead
		{Row{Floor: 8, Hits: 9, Stopped: true}, both},
		{Row{K: -1, Len: -1, Floor: -8, Hits: -7, Steps: -7}, both},
		{Row{K: 3, Len: 77, Floor: api.Most, Hits: api.Most, Steps: 0, Stopped: true}, both},
	} {
		if got := Holds(goes, []Row{x.row}); got != (x.by >= first) {
			t.Errorf("Holds of %v: %v", x.row, got)
		}
		if got := Holds(stops, []Row{x.row}); got != (x.by == both) {
			t.Errorf("Holds of %v, stopped: %v", x.row, got)
		}
		right := Row{Floor: 1, Hits: 1, Steps: 1}
		for _, l := range [][]Row{{x.row, right}, {right, x.row}, {right, x.row, right}, {right, right, x.row}} {
			if got := Holds(stops, l); got != (x.by == both) {
				t.Errorf("Holds of %v, stopped: %v", l, got)
			}
		}
	}
	if !Holds(goes, nil) || !Holds(stops, nil) || !Holds(verdict.Record{}, []Row{}) {
		t.Error("Holds of no rows")
	}
}

// P23.2

func TestCross(t *testing.T) {
	l := []Row{{K: 5, Hits: 3, Steps: 99, Len: 99, Floor: 99}, {K: 1, Hits: 10}, {K: 2, Hits: 4}, {K: 3, Hits: 11}, {K: 4, Hits: 10}}
	for _, x := range []struct {
		l     []Row
		steps int
		k     int
		ok    bool
	}{
		{l, -1, 5, true},
		{l, math.MinInt, 5, true},
		{l, 2, 5, true},
		{l, 3, 1, true}, // above, not as many
		{l, 9, 1, true},
		{l, 10, 3, true},
		{l, 11, 0, false},
		{l, math.MaxInt, 0, false},
		{nil, -1, 0, false},
		{[]Row{{K: 7}}, 0, 0, false},
		{[]Row{{K: 7}}, -1, 7, true},
		{[]Row{{K: 0, Hits: 1}}, 0, 0, true},
	} {
		if k, ok := Cross(x.l, x.steps); k != x.k || ok != x.ok {
			t.Errorf("Cross(%v, %d): %d, %v", x.l, x.steps, k, ok)
		}
	}
}

func TestLines(t *testing.T) {
	for _, x := range []struct {
		l    []Row
		text string
	}{
		{nil, ""},
		{[]Row{}, ""},
		{[]Row{{}}, "0 0 0 0 0 missed\n"},
		{[]Row{{1, 2, 3, 4, 5, false, false}}, "1 2 3 4 5 missed\n"},
		{[]Row{{1, 2, 3, 4, 5, false, true}}, "1 2 3 4 5 found\n"},
		{[]Row{{1, 2, 3, 4, 5, true, false}}, "1 2 3 4 5 stopped\n"},
		{[]Row{{1, 2, 3, 4, 5, true, true}}, "1 2 3 4 5 stopped\n"},
		{[]Row{{-1, math.MinInt, math.MaxInt, 10, 0, false, false}}, "-1 -9223372036854775808 9223372036854775807 10 0 missed\n"},
		{[]Row{{K: 3, Len: 4, Floor: 8, Hits: 15, Steps: 10, Stopped: true}, {K: 0, Len: 1, Floor: 1, Hits: 1, Steps: 1}}, "3 4 8 15 10 stopped\n0 1 1 1 1 missed\n"},
	} {
		if text := Lines(x.l); text != x.text {
			t.Errorf("Lines(%v): %q", x.l, text)
		}
	}
}
