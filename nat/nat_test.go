package nat

import (
	"math"
	"math/big"
	"slices"
	"testing"

	"caltrop/api"
)

// edges are numbers about which something changes: nought, the roots of the
// greatest, its halves, itself; and such below 0.
var edges = []int{
	math.MinInt, math.MinInt + 1, -api.Most / 2, -3, -1, 0, 1, 2, 3, 10, 127, 2097151, 2097152,
	1<<31 - 1, 1 << 31, 1<<32 - 1, 1 << 32, 3037000499, 3037000500, 1 << 40,
	api.Most / 3, api.Most/3 + 1, 1<<62 - 1, 1 << 62, 1<<62 + 1, api.Most - 1, api.Most,
}

// exact is a number as it counts, without an end.
func exact(n int) *big.Int {
	return big.NewInt(int64(max(n, 0)))
}

// ended is an exact number, ended at the greatest.
func ended(n *big.Int) int {
	if n.Cmp(big.NewInt(api.Most)) > 0 {
		return api.Most
	}
	return int(n.Int64())
}

func sumOf(l []int) int {
	n := new(big.Int)
	for _, x := range l {
		n.Add(n, exact(x))
	}
	return ended(n)
}

func productOf(l []int) int {
	n := big.NewInt(1)
	for _, x := range l {
		n.Mul(n, exact(x))
	}
	return ended(n)
}

// lists is all lists of edges, up to three long, and some long ones.
func lists() [][]int {
	all := [][]int{nil, {}}
	for _, a := range edges {
		all = append(all, []int{a})
		for _, b := range edges {
			all = append(all, []int{a, b})
			for _, c := range edges {
				all = append(all, []int{a, b, c})
			}
		}
	}
	return append(all, edges, slices.Repeat([]int{1}, 1000), slices.Repeat([]int{2}, 62), slices.Repeat([]int{2}, 63), append(slices.Repeat([]int{2}, 100), 0))
}

// P3.1

func TestAddMulSum(t *testing.T) {
	for _, l := range lists() {
		before := slices.Clone(l)
		if got := Add(l...); got != sumOf(l) {
			t.Fatalf("Add(%v): %d", l, got)
		}
		if got := Sum(l); got != sumOf(l) {
			t.Fatalf("Sum(%v): %d", l, got)
		}
		if got := Mul(l...); got != productOf(l) {
			t.Fatalf("Mul(%v): %d", l, got)
		}
		if !slices.Equal(l, before) {
			t.Fatalf("%v was changed", before)
		}
	}
}

func TestAddMulOfFew(t *testing.T) {
	for _, c := range []struct{ got, want int }{
		{Add(), 0},
		{Sum(nil), 0},
		{Mul(), 1},
		{Add(1<<62, 1<<62), api.Most}, // the document's example
		{Add(1<<62, 1<<62-1), api.Most},
		{Add(1<<62, 1<<62-2), api.Most - 1},
		{Add(5, -3), 5},
		{Add(-3, 5), 5},
		{Add(-3), 0},
		{Add(api.Most, -1), api.Most},
		{Mul(-3), 0},
		{Mul(-3, -5), 0},
		{Mul(0, api.Most, api.Most), 0},
		{Mul(api.Most, api.Most, 0), 0},
		{Mul(api.Most, api.Most, -1), 0},
		{Mul(1<<31, 1<<31), 1 << 62},
		{Mul(1<<31, 1<<32), api.Most},
		{Mul(7, 7, 73, 127, 337, 92737, 649657), api.Most}, // just the greatest
		{Mul(3037000499, 3037000499), 9223372030926249001},
		{Mul(3037000500, 3037000500), api.Most},
	} {
		if c.got != c.want {
			t.Errorf("%d, wanted %d", c.got, c.want)
		}
	}
}

func TestPow(t *testing.T) {
	for _, b := range edges {
		for e := 0; e <= 70; e++ {
			want := ended(new(big.Int).Exp(exact(b), big.NewInt(int64(e)), nil))
			if got := Pow(b, e); got != want {
				t.Fatalf("Pow(%d, %d): %d", b, e, got)
			}
		}
		for _, e := range []int{math.MinInt, -7, -1, 0} {
			if got := Pow(b, e); got != 1 {
				t.Errorf("Pow(%d, %d): %d", b, e, got)
			}
		}
	}
}

func TestPowOfGreatExponents(t *testing.T) {
	for _, e := range []int{1000, 1001, 1 << 62, api.Most - 1, api.Most} {
		for b, want := range map[int]int{-2: 0, 0: 0, 1: 1, 2: api.Most, 3: api.Most, api.Most: api.Most} {
			if got := Pow(b, e); got != want {
				t.Errorf("Pow(%d, %d): %d", b, e, got)
			}
		}
	}
}

func TestTriangle(t *testing.T) {
	sum := 0
	for k := range 5000 {
		sum += k
		if got := Triangle(k); got != sum {
			t.Fatalf("Triangle(%d): %d", k, got)
		}
	}
	last := 1<<32 - 1 // behind this one the greatest begins
	for _, k := range append([]int{last - 2, last - 1, last, last + 1, last + 2}, edges...) {
		n := new(big.Int).Mul(exact(k), new(big.Int).Add(exact(k), big.NewInt(1)))
		if got := Triangle(k); got != ended(n.Rsh(n, 1)) {
			t.Errorf("Triangle(%d): %d", k, got)
		}
	}
	if Triangle(last) == api.Most || Triangle(last+1) != api.Most {
		t.Error("Triangle at the greatest")
	}
}

func TestDot(t *testing.T) {
	for _, c := range []struct {
		a, b []int
		want int
	}{
		{nil, nil, 0},
		{nil, []int{1}, 0},
		{[]int{1}, []int{}, 0},
		{[]int{1, 2, 3}, []int{4, 5, 6}, 32},
		{[]int{1, 2, 3}, []int{4, 5}, 14}, // as far as both go
		{[]int{1, 2}, []int{4, 5, 6}, 14},
		{[]int{-1, 2, 3}, []int{4, 5, -6}, 10}, // below 0 is 0, of two such as well
		{[]int{-1}, []int{-1}, 0},
		{[]int{api.Most, api.Most}, []int{0, 1}, api.Most},
		{[]int{api.Most, 5}, []int{0, 2}, 10},
		{[]int{1 << 61, 1 << 61}, []int{2, 2}, api.Most},
		{[]int{1 << 61, 1<<61 - 1}, []int{2, 2}, api.Most - 1},
		{[]int{1 << 40, 1}, []int{1 << 40, 1}, api.Most},
	} {
		a, b := slices.Clone(c.a), slices.Clone(c.b)
		if got := Dot(c.a, c.b); got != c.want {
			t.Errorf("Dot(%v, %v): %d", c.a, c.b, got)
		}
		if got := Dot(c.b, c.a); got != c.want {
			t.Errorf("Dot(%v, %v): %d", c.b, c.a, got)
		}
		if !slices.Equal(a, c.a) || !slices.Equal(b, c.b) {
			t.Errorf("%v and %v were changed", a, b)
		}
	}
}

func TestDotOfEdges(t *testing.T) {
	for i := range edges {
		a, b := edges[i:], edges[:len(edges)-i/2]
		n := new(big.Int)
		for k := range min(len(a), len(b)) {
			n.Add(n, new(big.Int).Mul(exact(a[k]), exact(b[k])))
		}
		if got := Dot(a, b); got != ended(n) {
			t.Errorf("Dot(%v, %v): %d", a, b, got)
		}
	}
}

func TestFull(t *testing.T) {
	for _, n := range edges {
		if Full(n) != (n == api.Most) {
			t.Errorf("Full(%d)", n)
		}
	}
	if !Full(Add(api.Most-1, 1)) || Full(Add(api.Most-1, 0)) || !Full(Pow(2, 63)) || Full(Pow(2, 62)) {
		t.Error("Full of sums and powers")
	}
}

// P3.2

// at is a place of a table, 0 where it isn't.
func at(m [][]int, i, k int) int {
	if i >= len(m) || k >= len(m[i]) {
		return 0
	}
	return m[i][k]
}

// product is the two tables' product, place by place.
func product(a, b [][]int) [][]int {
	width, deep := 0, len(b)
	for _, row := range b {
		width = max(width, len(row))
	}
	m := [][]int{}
	for i := range a {
		row := []int{}
		for k := range width {
			n := new(big.Int)
			for j := range deep {
				n.Add(n, new(big.Int).Mul(exact(at(a, i, j)), exact(at(b, j, k))))
			}
			row = append(row, ended(n))
		}
		m = append(m, row)
	}
	return m
}

func equal(a, b [][]int) bool {
	return slices.EqualFunc(a, b, func(x, y []int) bool { return slices.Equal(x, y) })
}

func cloned(m [][]int) [][]int {
	var c [][]int
	for _, row := range m {
		c = append(c, slices.Clone(row))
	}
	return c
}

func TestMatrix(t *testing.T) {
	for _, c := range []struct{ a, b, want [][]int }{
		{nil, nil, nil},
		{nil, [][]int{{1}}, nil},
		{[][]int{{1}, {2, 3}}, nil, [][]int{{}, {}}}, // rows without places
		{[][]int{{1}}, [][]int{{}, {}}, [][]int{{}}},
		{[][]int{{}, nil}, [][]int{{1, 2}}, [][]int{{0, 0}, {0, 0}}},
		{[][]int{{1, 2}, {0, 1}}, [][]int{{3}, {4, 5}}, [][]int{{11, 10}, {4, 5}}},
		{[][]int{{2}}, [][]int{{3}, {4, 5, 6}}, [][]int{{6, 0, 0}}}, // the longest row is one that isn't met
		{[][]int{{2, 9, 9}}, [][]int{{3}}, [][]int{{6}}},
		{[][]int{{-2, 3}}, [][]int{{7}, {-5}}, [][]int{{0}}},
		{[][]int{{-2}}, [][]int{{-5}}, [][]int{{0}}},
		{[][]int{{api.Most, 0}}, [][]int{{1, 0}, {5, api.Most}}, [][]int{{api.Most, 0}}},
		{[][]int{{1, 1}}, [][]int{{1 << 62, 1 << 62}, {1 << 62, 1<<62 - 2}}, [][]int{{api.Most, api.Most - 1}}},
		{[][]int{{1 << 32}}, [][]int{{1 << 32}}, [][]int{{api.Most}}},
	} {
		if got := Matrix(c.a, c.b); !equal(got, c.want) {
			t.Errorf("Matrix(%v, %v): %v", c.a, c.b, got)
		}
	}
}

// tables are some tables with rows of unlike lengths.
func tables() [][][]int {
	var all [][][]int
	seed := uint64(1)
	next := func(n int) int {
		seed = seed*6364136223846793005 + 1442695040888963407
		return int(seed>>33) % n
	}
	for range 60 {
		m := make([][]int, next(5))
		for i := range m {
			m[i] = make([]int, next(5))
			for k := range m[i] {
				m[i][k] = edges[next(len(edges))]
				if next(2) == 0 {
					m[i][k] = next(10)
				}
			}
		}
		all = append(all, m)
	}
	return all
}

func TestMatrixOfManyTables(t *testing.T) {
	for _, a := range tables() {
		for _, b := range tables() {
			x, y := cloned(a), cloned(b)
			if got := Matrix(a, b); !equal(got, product(a, b)) {
				t.Fatalf("Matrix(%v, %v): %v", a, b, got)
			}
			if !equal(a, x) || !equal(b, y) {
				t.Fatalf("%v and %v were changed", x, y)
			}
		}
	}
}

func TestMatrixIsNew(t *testing.T) {
	a, b := [][]int{{1, 0}, {0, 1}}, [][]int{{5, 6}, {7, 8}}
	m := Matrix(a, b)
	m[0][0], m[1][1] = 9, 9
	row := append(m[0], 77)
	if m[1][0] != 7 || row[2] != 77 {
		t.Error("two rows share their room")
	}
	if !equal(a, [][]int{{1, 0}, {0, 1}}) || !equal(b, [][]int{{5, 6}, {7, 8}}) {
		t.Error("a table that is answered shares with one that was handed in")
	}
	if !equal(Matrix(a, b), b) {
		t.Error("a table that was answered is told again")
	}
}
