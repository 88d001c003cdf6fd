package blocks

import (
	"math"
	"slices"
	"strings"
	"testing"

	"caltrop/api"
	"caltrop/bytes"
)

// cases are lists of sets with the edges: none, the empty one, all, the same
// again, sets within one another, and such that tell all bytes apart.
func cases() [][]api.Set {
	l := [][]api.Set{
		nil,
		{{}},
		{bytes.All()},
		{{}, bytes.All(), {}},
		{bytes.Of('a'), bytes.Range('a', 'c')},
		{bytes.Range('a', 'c'), bytes.Of('a')},
		{bytes.Range('a', 'c'), bytes.Range('b', 'd')},
		{bytes.Of(0)},
		{bytes.Of(255)},
		{bytes.Of(0, 255), bytes.Range(1, 254)},
		{bytes.Of('x'), bytes.Not(bytes.Of('x')), bytes.Of('x')},
		{bytes.Range(63, 64), bytes.Range(127, 128), bytes.Range(191, 192)},
	}
	var halves, each []api.Set
	for bit := range 8 {
		var s api.Set
		for b := range 256 {
			if b>>bit&1 == 1 {
				s = bytes.Union(s, bytes.Of(byte(b)))
			}
		}
		halves = append(halves, s)
	}
	for b := range 256 {
		each = append(each, bytes.Of(byte(255-b)))
	}
	l = append(l, halves, each, append(slices.Clone(each), halves...))
	seed := uint64(1)
	for n := range 12 {
		var sets []api.Set
		for range n {
			var s api.Set
			for i := range s {
				seed = seed*6364136223846793005 + 1442695040888963407
				s[i] = seed ^ seed>>29
			}
			sets = append(sets, bytes.Union(s, bytes.Range(20, 200)))
		}
		l = append(l, sets)
	}
	return l
}

// alike tells whether each of the sets has both bytes or neither.
func alike(l []api.Set, a, b byte) bool {
	for _, s := range l {
		if bytes.Has(s, a) != bytes.Has(s, b) {
			return false
		}
	}
	return true
}

// model is of each byte its block, as the document says it, and of each block its least byte.
func model(l []api.Set) ([256]int, []byte) {
	var of [256]int
	var least []byte
	for b := range 256 {
		i := slices.IndexFunc(least, func(a byte) bool { return alike(l, a, byte(b)) })
		if i < 0 {
			i = len(least)
			least = append(least, byte(b))
		}
		of[b] = i
	}
	return of, least
}

// whole is all bytes of a block of a model.
func whole(of [256]int, i int) api.Set {
	var s api.Set
	for b := range 256 {
		if of[b] == i {
			s = bytes.Union(s, bytes.Of(byte(b)))
		}
	}
	return s
}

// check holds blocks against those of some sets.
func check(t *testing.T, x *Blocks, l []api.Set) {
	t.Helper()
	of, least := model(l)
	if x.Count() != len(least) {
		t.Fatalf("%d blocks of %x, wanted %d", x.Count(), l, len(least))
	}
	for b := range 256 {
		if x.Of(byte(b)) != of[b] {
			t.Fatalf("Of(%d) is %d, of %x", b, x.Of(byte(b)), l)
		}
	}
	for i := range least {
		if b, ok := x.Least(i); b != least[i] || !ok {
			t.Fatalf("Least(%d): %d, %v", i, b, ok)
		}
		if s := x.Set(i); s != whole(of, i) {
			t.Fatalf("Set(%d): %x", i, s)
		}
	}
}

// P4.1

func TestNew(t *testing.T) {
	for _, l := range cases() {
		before := slices.Clone(l)
		x := New(l...)
		check(t, x, l)
		if !slices.Equal(l, before) {
			t.Errorf("%x was changed", before)
		}
		for i := range l { // nothing is kept of what was handed in
			l[i] = bytes.Of(7)
		}
		check(t, x, before)
	}
}

func TestNewOfFew(t *testing.T) {
	if x := New(); x.Count() != 1 || x.Set(0) != bytes.All() {
		t.Error("of no sets")
	}
	x := New(bytes.Of('a'), bytes.Range('a', 'c'))
	zero, ok := x.Least(0)
	if x.Count() != 3 || zero != 0 || !ok || x.Of('a') != 1 || x.Of('b') != 2 || x.Of('c') != 2 || x.Of('d') != 0 || x.Set(2) != bytes.Of('b', 'c') {
		t.Error("of a, and a to c")
	}
}

func TestNoBlock(t *testing.T) {
	for _, l := range cases() {
		x := New(l...)
		for _, i := range []int{math.MinInt, -1, x.Count(), x.Count() + 1, 256, math.MaxInt} {
			if b, ok := x.Least(i); b != 0 || ok {
				t.Errorf("Least(%d): %d, %v", i, b, ok)
			}
			if s := x.Set(i); s != (api.Set{}) {
				t.Errorf("Set(%d): %x", i, s)
			}
		}
	}
}

// blocksOf is the blocks that a set has some byte of, and whether it has all of these.
func blocksOf(x *Blocks, s api.Set) ([]int, bool) {
	var l []int
	for i := range x.Count() {
		n := bytes.Count(bytes.Meet(x.Set(i), s))
		if n > 0 && n < bytes.Count(x.Set(i)) {
			return nil, false
		}
		if n > 0 {
			l = append(l, i)
		}
	}
	return l, true
}

func TestIn(t *testing.T) {
	asked := []api.Set{{}, bytes.All(), bytes.Of(0), bytes.Of('a'), bytes.Range('a', 'c'), bytes.Not(bytes.Of('a')), bytes.Of('b', 'z'), bytes.Range(1, 254)}
	for _, l := range cases() {
		x := New(l...)
		for _, s := range slices.Concat(asked, l) {
			want, whole := blocksOf(x, s)
			if got, ok := x.In(s); ok != whole || !slices.Equal(got, want) {
				t.Fatalf("In(%x) of the blocks of %x: %v, %v", s, l, got, ok)
			}
		}
		for _, s := range l {
			if _, ok := x.In(s); !ok {
				t.Fatalf("of %x block by block: %x isn't", l, s)
			}
		}
	}
}

func TestInOfFew(t *testing.T) {
	x := New(bytes.Range('a', 'c'), bytes.Range('b', 'd'))
	for _, c := range []struct {
		s    api.Set
		want []int
		ok   bool
	}{
		{api.Set{}, nil, true},
		{bytes.Range('a', 'd'), []int{1, 2, 3}, true},
		{bytes.Of('a'), []int{1}, true},
		{bytes.Of('b', 'c'), []int{2}, true},
		{bytes.Of('b'), nil, false},
		{bytes.Range('a', 'b'), nil, false},
		{bytes.Range('d', 'e'), nil, false},
		{bytes.Not(bytes.Of('a', 'd')), []int{0, 2}, true},
		{bytes.All(), []int{0, 1, 2, 3}, true},
	} {
		got, ok := x.In(c.s)
		if ok != c.ok || !slices.Equal(got, c.want) {
			t.Errorf("In(%x): %v, %v", c.s, got, ok)
		}
		for i := range got {
			got[i] = 99
		}
		if again, _ := x.In(c.s); !slices.Equal(again, c.want) {
			t.Errorf("In(%x), told again: %v", c.s, again)
		}
	}
}

// P4.2

func TestMore(t *testing.T) {
	for _, l := range cases() {
		x := New(l...)
		for _, s := range []api.Set{{}, bytes.All(), bytes.Of(0), bytes.Of('b'), bytes.Range(100, 200), x.Set(0)} {
			check(t, x.More(s), append(slices.Clone(l), s))
			check(t, x, l) // this one stays
		}
	}
}

func TestMoreByMore(t *testing.T) {
	for _, l := range cases() {
		x := New()
		for _, s := range l {
			x = x.More(s)
		}
		check(t, x, l)
	}
}

func TestWord(t *testing.T) {
	x := New(bytes.Range('a', 'c'), bytes.Range('b', 'd'))
	for _, c := range []struct {
		l    []int
		want string
		ok   bool
	}{
		{nil, "", true},
		{[]int{}, "", true},
		{[]int{0}, "\x00", true},
		{[]int{0, 2, 1}, "\x00ba", true},
		{[]int{3, 3, 3, 1}, "ddda", true},
		{[]int{4}, "", false},
		{[]int{-1}, "", false},
		{[]int{1, 2, 4}, "", false},
		{[]int{math.MinInt, 1}, "", false},
		{[]int{1, math.MaxInt, 1}, "", false},
	} {
		before := slices.Clone(c.l)
		if w, ok := x.Word(c.l); w != c.want || ok != c.ok || !slices.Equal(c.l, before) {
			t.Errorf("Word(%v): %q, %v", before, w, ok)
		}
	}
}

func TestNames(t *testing.T) {
	x := New(bytes.Range('a', 'c'), bytes.Range('b', 'd'))
	for w, want := range map[string][]int{
		"":           nil,
		"\x00ba":     {0, 2, 1},
		"abcdef":     {1, 2, 2, 3, 0, 0},
		"\xff\xc3dd": {0, 0, 3, 3}, // bytes, whether or not these are a letter's
	} {
		got := x.Names(w)
		if !slices.Equal(got, want) {
			t.Errorf("Names(%q): %v", w, got)
		}
		for i := range got {
			got[i] = 99
		}
		if !slices.Equal(x.Names(w), want) {
			t.Errorf("Names(%q), told again: %v", w, x.Names(w))
		}
	}
}

func TestNamesAndWordUndoEachOther(t *testing.T) {
	for _, l := range cases() {
		x := New(l...)
		var names []int
		for i := range x.Count() {
			names = append(names, i, x.Count()-1-i)
		}
		w, ok := x.Word(names)
		if !ok || len(w) != len(names) || !slices.Equal(x.Names(w), names) {
			t.Fatalf("%v: %q, %v", names, w, ok)
		}
	}
	long := strings.Repeat("a\xffb", 1<<16)
	if got := New(bytes.Of('b')).Names(long); len(got) != len(long) || got[len(long)-1] != 1 {
		t.Errorf("of a long word %d names", len(got))
	}
}

func TestNil(t *testing.T) {
	var x *Blocks
	b, least := x.Least(0)
	l, in := x.In(api.Set{})
	w, word := x.Word(nil)
	if x.Count() != 0 || x.Of('a') != 0 || b != 0 || least || x.Set(0) != (api.Set{}) || l != nil || in || x.More(bytes.Of('a')) != nil || w != "" || word || x.Names("a") != nil {
		t.Error("of nil blocks")
	}
	if l, in := x.In(bytes.All()); l != nil || in {
		t.Error("In of all bytes, of nil blocks")
	}
	if w, word := x.Word([]int{0}); w != "" || word {
		t.Error("Word of block 0, of nil blocks")
	}
}

// P4.3

func TestEachByteIsInOneBlock(t *testing.T) {
	for _, l := range cases() {
		x := New(l...)
		all := 0
		var sets []api.Set
		for i := range x.Count() {
			sets = append(sets, x.Set(i))
			all += bytes.Count(x.Set(i))
		}
		if all != 256 || bytes.Union(sets...) != bytes.All() {
			t.Errorf("the blocks of %x have %d bytes", l, all)
		}
		for b := range 256 {
			if !bytes.Has(x.Set(x.Of(byte(b))), byte(b)) {
				t.Errorf("block %d hasn't its byte %d", x.Of(byte(b)), b)
			}
		}
	}
}
