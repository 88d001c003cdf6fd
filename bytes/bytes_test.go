package bytes

import (
	"slices"
	"testing"

	"caltrop/api"
)

// A model is a set told byte by byte: what the sets are held against.
type model [256]bool

func modelOf(s api.Set) model {
	var m model
	for b := range m {
		m[b] = s[b/64]&(1<<(b%64)) != 0
	}
	return m
}

// each is the model of the bytes for which a test holds.
func each(holds func(b int) bool) model {
	var m model
	for b := range m {
		m[b] = holds(b)
	}
	return m
}

func check(t *testing.T, what string, got api.Set, want model) {
	t.Helper()
	if modelOf(got) != want {
		t.Errorf("%s: %x", what, got)
	}
}

// samples are sets with all edges: of words, of letters, of bytes.
func samples() []api.Set {
	l := []api.Set{
		{}, All(), Of(0), Of(255), Of(0, 255), Of('A'), Of('z'), Of('a', 'A', '1'), Of('@', '[', '`', '{'),
		Range(63, 64), Range(127, 128), Range(191, 192), Range('a', 'z'), Range('A', 'Z'), Range(1, 254), Of('k', 'K', 0x6b|0x80),
	}
	seed := uint64(1)
	for range 40 {
		var s api.Set
		for i := range s {
			seed = seed*6364136223846793005 + 1442695040888963407
			s[i] = seed ^ seed>>29
		}
		l = append(l, s, Meet(s, l[len(l)-1]), Meet(s, Range('0', 'z')))
	}
	return l
}

// P1.1

func TestOf(t *testing.T) {
	check(t, "Of()", Of(), model{})
	check(t, "Of(nil)", Of(nil...), model{})
	for i := range 256 {
		check(t, "Of", Of(byte(i)), each(func(b int) bool { return b == i }))
	}
	l := []byte{200, 0, 63, 64, 0, 255, 200}
	check(t, "Of several", Of(l...), each(func(b int) bool { return slices.Contains(l, byte(b)) }))
}

func TestRange(t *testing.T) {
	for lo := range 256 {
		for hi := range 256 {
			want := each(func(b int) bool { return lo <= b && b <= hi })
			if modelOf(Range(byte(lo), byte(hi))) != want {
				t.Fatalf("Range(%d, %d): %x", lo, hi, Range(byte(lo), byte(hi)))
			}
		}
	}
}

func TestAll(t *testing.T) {
	check(t, "All", All(), each(func(int) bool { return true }))
}

func TestHas(t *testing.T) {
	for _, s := range samples() {
		m := modelOf(s)
		for b := range 256 {
			if Has(s, byte(b)) != m[b] {
				t.Fatalf("Has(%x, %d)", s, b)
			}
		}
	}
}

func TestTwoSets(t *testing.T) {
	for _, s := range samples() {
		for _, u := range samples() {
			a, c := modelOf(s), modelOf(u)
			check(t, "Union", Union(s, u), each(func(b int) bool { return a[b] || c[b] }))
			check(t, "Meet", Meet(s, u), each(func(b int) bool { return a[b] && c[b] }))
			check(t, "Minus", Minus(s, u), each(func(b int) bool { return a[b] && !c[b] }))
			within := each(func(b int) bool { return a[b] && !c[b] }) == model{}
			if Within(s, u) != within {
				t.Errorf("Within(%x, %x): %v", s, u, !within)
			}
		}
	}
}

func TestUnionOfAnyNumber(t *testing.T) {
	check(t, "Union()", Union(), model{})
	for _, s := range samples() {
		check(t, "Union of one", Union(s), modelOf(s))
	}
	l := []api.Set{Of(1), Of(70), Of(1, 130), Of(255)}
	before := slices.Clone(l)
	if got := Union(l...); got != Of(1, 70, 130, 255) || !slices.Equal(l, before) {
		t.Errorf("Union of four: %x", got)
	}
}

func TestNot(t *testing.T) {
	for _, s := range samples() {
		m := modelOf(s)
		check(t, "Not", Not(s), each(func(b int) bool { return !m[b] }))
	}
}

// other is a letter's other case; of what is no letter that itself.
func other(b int) int {
	switch {
	case 'a' <= b && b <= 'z':
		return b - 'a' + 'A'
	case 'A' <= b && b <= 'Z':
		return b - 'A' + 'a'
	}
	return b
}

func TestFold(t *testing.T) {
	if got := Fold(Of('a', '1')); got != Of('A', 'a', '1') {
		t.Errorf("Fold of a and 1: %x", got)
	}
	l := samples()
	for b := range 256 {
		l = append(l, Of(byte(b)))
	}
	for _, s := range l {
		m := modelOf(s)
		check(t, "Fold", Fold(s), each(func(b int) bool { return m[b] || m[other(b)] }))
	}
}

// P1.2

// rising is a model's bytes.
func rising(m model) []byte {
	var l []byte
	for b, has := range m {
		if has {
			l = append(l, byte(b))
		}
	}
	return l
}

func TestCountListFirst(t *testing.T) {
	for _, s := range samples() {
		want := rising(modelOf(s))
		if got := Count(s); got != len(want) {
			t.Errorf("Count(%x): %d", s, got)
		}
		if got := List(s); !slices.Equal(got, want) {
			t.Errorf("List(%x): %v", s, got)
		}
		b, ok := First(s)
		if ok != (len(want) > 0) || ok && b != want[0] || !ok && b != 0 {
			t.Errorf("First(%x): %d, %v", s, b, ok)
		}
	}
}

func TestListIsNew(t *testing.T) {
	s := Of(1, 2, 3)
	List(s)[0] = 9
	Ranges(s)[0] = [2]byte{9, 9}
	if !slices.Equal(List(s), []byte{1, 2, 3}) || !slices.Equal(Ranges(s), [][2]byte{{1, 3}}) {
		t.Error("a list that was answered is told again")
	}
}

func TestRanges(t *testing.T) {
	for _, c := range []struct {
		set  api.Set
		want [][2]byte
	}{
		{api.Set{}, nil},
		{All(), [][2]byte{{0, 255}}},
		{Of(0), [][2]byte{{0, 0}}},
		{Of(255), [][2]byte{{255, 255}}},
		{Of(255, 254, 0), [][2]byte{{0, 0}, {254, 255}}},
		{Of(63, 64), [][2]byte{{63, 64}}},
		{Of('a', 'b', 'c', 'x'), [][2]byte{{'a', 'c'}, {'x', 'x'}}},
		{Not(Of(127)), [][2]byte{{0, 126}, {128, 255}}},
	} {
		if got := Ranges(c.set); !slices.Equal(got, c.want) {
			t.Errorf("Ranges(%x): %v", c.set, got)
		}
	}
}

func TestRangesAreTheFewest(t *testing.T) {
	for _, s := range samples() {
		var m model
		last := -2
		for _, r := range Ranges(s) {
			if int(r[0]) < last+2 || r[1] < r[0] {
				t.Fatalf("Ranges(%x): %v", s, Ranges(s))
			}
			for b := int(r[0]); b <= int(r[1]); b++ {
				m[b] = true
			}
			last = int(r[1])
		}
		check(t, "Ranges", s, m)
	}
}

func TestFrom(t *testing.T) {
	for _, c := range []struct {
		l    [][2]byte
		want api.Set
	}{
		{nil, Of()},
		{[][2]byte{{2, 1}}, Of()},
		{[][2]byte{{255, 0}, {5, 5}}, Of(5)},
		{[][2]byte{{0, 255}}, All()},
		{[][2]byte{{7, 9}, {1, 2}, {8, 10}, {3, 3}}, Of(1, 2, 3, 7, 8, 9, 10)},
		{[][2]byte{{250, 255}, {250, 255}}, Of(250, 251, 252, 253, 254, 255)},
	} {
		before := slices.Clone(c.l)
		if got := From(c.l...); got != c.want || !slices.Equal(c.l, before) {
			t.Errorf("From(%v): %x", before, got)
		}
	}
}

// P1.3

func TestLattice(t *testing.T) {
	l := samples()[:40]
	for _, a := range l {
		if Union(a, a) != a || Meet(a, a) != a || Union(a, Not(a)) != All() || Meet(a, Not(a)) != Of() || Not(Not(a)) != a {
			t.Errorf("of %x alone", a)
		}
		for _, b := range l {
			if Union(a, b) != Union(b, a) || Meet(a, b) != Meet(b, a) {
				t.Errorf("the order of %x and %x", a, b)
			}
			if Union(a, Meet(a, b)) != a || Meet(a, Union(a, b)) != a {
				t.Errorf("%x swallows %x", a, b)
			}
			if Not(Union(a, b)) != Meet(Not(a), Not(b)) || Minus(a, b) != Meet(a, Not(b)) {
				t.Errorf("the others of %x and %x", a, b)
			}
			if Within(a, b) != (Union(a, b) == b) || Within(a, b) != (Meet(a, b) == a) {
				t.Errorf("%x within %x", a, b)
			}
			for _, c := range l {
				if Union(a, b, c) != Union(a, Union(b, c)) || Meet(a, Meet(b, c)) != Meet(Meet(a, b), c) || Meet(a, Union(b, c)) != Union(Meet(a, b), Meet(a, c)) {
					t.Fatalf("three: %x, %x, %x", a, b, c)
				}
			}
		}
	}
}

func TestFromAndRangesUndoEachOther(t *testing.T) {
	for _, s := range samples() {
		r := Ranges(s)
		if From(r...) != s || !slices.Equal(Ranges(From(r...)), r) {
			t.Errorf("%x: %v", s, r)
		}
	}
	for lo := range 256 {
		for hi := lo; hi < 256; hi++ {
			r := [][2]byte{{byte(lo), byte(hi)}}
			if !slices.Equal(Ranges(From(r...)), r) {
				t.Fatalf("%v: %v", r, Ranges(From(r...)))
			}
		}
	}
}
