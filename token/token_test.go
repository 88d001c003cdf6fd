package token

import (
	"math"
	"slices"
	"strings"
	"testing"

	"caltrop/api"
	"caltrop/bytes"
)

var (
	digits = bytes.Range('0', '9')
	word   = bytes.Union(digits, bytes.Range('a', 'z'), bytes.Range('A', 'Z'), bytes.Of('_'))
	blank  = bytes.Of(9, 10, 11, 12, 13, 32)
)

// escapes are all escapes but those of x, and the sets they stand for.
func escapes() map[string]api.Set {
	m := map[string]api.Set{
		`\n`: bytes.Of(10), `\t`: bytes.Of(9), `\r`: bytes.Of(13), `\f`: bytes.Of(12), `\v`: bytes.Of(11),
		`\d`: digits, `\w`: word, `\s`: blank,
		`\D`: bytes.Not(digits), `\W`: bytes.Not(word), `\S`: bytes.Not(blank),
	}
	for _, b := range []byte(`\|()[]{}*+?.^$/-`) {
		m[`\`+string(rune(b))] = bytes.Of(b)
	}
	return m
}

func set(s api.Set) Token {
	return Token{Kind: Set, Set: s}
}

func count(least, most int, lazy bool) Token {
	return Token{Kind: Count, Min: least, Max: most, Lazy: lazy}
}

// A part is a text of one token, which stands where it is put.
type part struct {
	text string
	Token
}

// parts are tokens of all kinds, none of which a ? or a + goes on.
func parts() []part {
	l := []part{
		{"|", Token{Kind: Bar}},
		{"(?:", Token{Kind: Free}},
		{")", Token{Kind: Close}},
		{".", set(bytes.Not(bytes.Of(10)))},
		{"[a]", set(bytes.Of('a'))},
		{"[^a]", set(bytes.Not(bytes.Of('a')))},
		{"[a-cx]", set(bytes.Of('a', 'b', 'c', 'x'))},
		{"[xa-c]", set(bytes.Of('a', 'b', 'c', 'x'))},
		{"[a-a]", set(bytes.Of('a'))},
		{"[aaa-ba]", set(bytes.Of('a', 'b'))},
		{`[^a-c\d]`, set(bytes.Minus(bytes.Not(digits), bytes.Range('a', 'c')))},
		{`[\d\s_]`, set(bytes.Union(digits, blank, bytes.Of('_')))},
		{`[\D\d]`, set(bytes.All())},
		{`[^\x00-\xff]`, set(api.Set{})},
		{`[\x00-\xFf]`, set(bytes.All())},
		{`[\x41-C]`, set(bytes.Of('A', 'B', 'C'))},
		{`[A-\x43]`, set(bytes.Of('A', 'B', 'C'))},
		{`[\t-\r]`, set(bytes.Range(9, 13))},
		{`[\--\/]`, set(bytes.Of('-', '.', '/'))},
		{`[\[-\]]`, set(bytes.Range('[', ']'))},
		{`[\^\]\-\\]`, set(bytes.Of('^', ']', '-', '\\'))},
		{`[$|.(){}*+?,:]`, set(bytes.Of([]byte("$|.(){}*+?,:")...))},
		{"[ -,]", set(bytes.Range(' ', ','))},
		{"[\x00\n\x80-\xff]", set(bytes.Union(bytes.Of(0, 10), bytes.Range(128, 255)))},
		{"[^\n]", set(bytes.Not(bytes.Of(10)))},
	}
	for s, of := range escapes() {
		l = append(l, part{s, set(of)}, part{"[" + s + "]", set(of)}, part{"[^" + s + "]", set(bytes.Not(of))})
	}
	for b := range 256 {
		if one := []byte{byte(b)}; !slices.Contains([]byte(`|()[]{}*+?.\^$`), one[0]) {
			l = append(l, part{string(one), set(bytes.Of(one...))})
		}
		s := []byte{'\\', 'x', "0123456789abcdef"[b>>4], "0123456789ABCDEF"[b&15]}
		l = append(l, part{string(s), set(bytes.Of(byte(b)))})
	}
	return l
}

// counts are counts, none of them lazy.
func counts() []part {
	return []part{
		{"*", count(0, -1, false)},
		{"+", count(1, -1, false)},
		{"?", count(0, 1, false)},
		{"{0}", count(0, 0, false)},
		{"{7}", count(7, 7, false)},
		{"{007}", count(7, 7, false)},
		{"{1000}", count(1000, 1000, false)},
		{"{0000000000000000000000001000}", count(1000, 1000, false)},
		{"{0,}", count(0, -1, false)},
		{"{2,}", count(2, -1, false)},
		{"{1000,}", count(1000, -1, false)},
		{"{0,0}", count(0, 0, false)},
		{"{2,2}", count(2, 2, false)},
		{"{2,3}", count(2, 3, false)},
		{"{9,10}", count(9, 10, false)},
		{"{999,1000}", count(999, 1000, false)},
		{"{0,1000}", count(0, 1000, false)},
		{"{02,0003}", count(2, 3, false)},
	}
}

// lay is the text of parts, and the tokens of it.
func lay(l ...part) (string, []Token) {
	text, tokens := "", []Token{}
	for _, x := range l {
		t := x.Token
		t.From = len(text)
		text += x.text
		t.To = len(text)
		tokens = append(tokens, t)
	}
	return text, tokens
}

func checkScan(t *testing.T, l ...part) {
	t.Helper()
	p, want := lay(l...)
	got, n, e := Scan(p)
	if !slices.Equal(got, want) || n != len(want) || e != api.OK {
		t.Fatalf("Scan(%q): %v, %d, %d; wanted %v", p, got, n, e, want)
	}
}

// P5.1

func TestKinds(t *testing.T) {
	if l := [...]int{Set, Open, Free, Close, Bar, Count}; l != [...]int{0, 1, 2, 3, 4, 5} {
		t.Error(l)
	}
}

func TestScanOfNothing(t *testing.T) {
	if l, n, e := Scan(""); len(l) != 0 || n != 0 || e != api.OK {
		t.Errorf("%v, %d, %d", l, n, e)
	}
}

func TestScanExample(t *testing.T) {
	l, n, e := Scan("a{2,}?")
	want := []Token{{Kind: 0, From: 0, To: 1, Set: bytes.Of('a')}, {Kind: 5, From: 1, To: 6, Min: 2, Max: -1, Lazy: true}}
	if !slices.Equal(l, want) || n != 2 || e != api.OK {
		t.Errorf("%v, %d, %d", l, n, e)
	}
}

func TestScanOfOneAndTwo(t *testing.T) {
	l := parts()
	for i, x := range l {
		checkScan(t, x)
		checkScan(t, x, l[(7*i+3)%len(l)])
		checkScan(t, l[(5*i+1)%len(l)], x, l[(3*i+2)%len(l)])
	}
}

func TestScanCounts(t *testing.T) {
	a := part{"a", set(bytes.Of('a'))}
	for _, x := range counts() {
		lazy := x
		lazy.text, lazy.Lazy = x.text+"?", true
		checkScan(t, x)
		checkScan(t, lazy)
		checkScan(t, a, x)
		checkScan(t, a, x, a)
		checkScan(t, a, lazy, a, lazy)
		for _, y := range counts() {
			if y.text != "?" && y.text != "+" {
				checkScan(t, x, y)
			}
			if y.text != "+" {
				checkScan(t, lazy, y, a)
			}
		}
	}
}

func TestScanOpen(t *testing.T) {
	open, free := part{"(", Token{Kind: Open}}, part{"(?:", Token{Kind: Free}}
	colon := part{":", set(bytes.Of(':'))}
	checkScan(t, open)
	checkScan(t, free)
	checkScan(t, open, open, free, colon)
	checkScan(t, open, colon)
	checkScan(t, free, part{"?", count(0, 1, false)})
	for _, x := range counts() {
		if x.text != "?" {
			checkScan(t, open, x)
		}
	}
}

func TestScanAll(t *testing.T) {
	checkScan(t, append(parts(), counts()[7:]...)...)
}

func TestScanLong(t *testing.T) {
	most := strings.Repeat("a*|.", api.MaxText/4)
	if l, n, e := Scan(most); n != api.MaxText || len(l) != n || e != api.OK || l[n-1].To != n {
		t.Errorf("of the most bytes: %d, %d", n, e)
	}
	class := "[" + strings.Repeat(`a-c\d`, (api.MaxText-2)/5) + "]"
	if l, n, e := Scan(class); n != 1 || e != api.OK || l[0].Set != bytes.Union(digits, bytes.Range('a', 'c')) {
		t.Errorf("of a long class: %d, %d", n, e)
	}
	number := "{" + strings.Repeat("0", api.MaxText-3) + "5}"
	if l, n, e := Scan(number[:api.MaxText]); n != 1 || e != api.OK || l[0].Min != 5 || l[0].Max != 5 {
		t.Errorf("of a long number: %d, %d", n, e)
	}
	for _, p := range []string{most + "a", "]" + most, "^" + most, strings.Repeat("a", 3*api.MaxText)} {
		if l, n, e := Scan(p); l != nil || n != 0 || e != api.ErrLong {
			t.Errorf("of %d bytes: %d, %d", len(p), n, e)
		}
	}
}

func TestScanIsNew(t *testing.T) {
	l, _, _ := Scan("ab")
	l[0] = Token{}
	if again, _, _ := Scan("ab"); again[0].Set != bytes.Of('a') {
		t.Error("a list that was answered is told again")
	}
}

// A fault is a text, the place of its fault, and the error.
type fault struct {
	text string
	at   int
	e    api.Errno
}

// setFaults are the faults of classes and escapes.
func setFaults() []fault {
	l := []fault{
		// too early
		{`\`, 1, api.ErrForm}, {`\x`, 2, api.ErrForm}, {`\x4`, 3, api.ErrForm},
		{`[`, 1, api.ErrForm}, {`[^`, 2, api.ErrForm}, {`[a`, 2, api.ErrForm}, {`[a-`, 3, api.ErrForm}, {`[a-b`, 4, api.ErrForm},
		{`[\`, 2, api.ErrForm}, {`[\x`, 3, api.ErrForm}, {`[\x4`, 4, api.ErrForm}, {`[a-\`, 4, api.ErrForm}, {`[a-\x6`, 6, api.ErrForm}, {`[\d`, 3, api.ErrForm},
		// what can't stand there
		{`\0`, 1, api.ErrForm}, {`\a`, 1, api.ErrForm}, {`\X41`, 1, api.ErrForm}, {`\N`, 1, api.ErrForm}, {`\_`, 1, api.ErrForm}, {`\ `, 1, api.ErrForm}, {`\"`, 1, api.ErrForm}, {`\,`, 1, api.ErrForm}, {"\\\n", 1, api.ErrForm}, {"\\\xff", 1, api.ErrForm}, {"\\\x00", 1, api.ErrForm},
		{`\xg0`, 2, api.ErrForm}, {`\x0g`, 3, api.ErrForm}, {`\xG0`, 2, api.ErrForm}, {`\x{41}`, 2, api.ErrForm}, {`\x-1`, 2, api.ErrForm}, {`\x4:`, 3, api.ErrForm}, {`\x@1`, 2, api.ErrForm}, {"\\x`1", 2, api.ErrForm},
		{`[]`, 1, api.ErrForm}, {`[^]`, 2, api.ErrForm}, {`[]]`, 1, api.ErrForm}, {`[[]`, 1, api.ErrForm}, {`[a[:b]`, 2, api.ErrForm}, {`[^^]`, 2, api.ErrForm}, {`[a^]`, 2, api.ErrForm},
		{`[-a]`, 1, api.ErrForm}, {`[a-]`, 3, api.ErrForm}, {`[a--]`, 3, api.ErrForm}, {`[--a]`, 1, api.ErrForm}, {`[a-b-c]`, 4, api.ErrForm}, {`[^-a]`, 2, api.ErrForm}, {`[a-^]`, 3, api.ErrForm}, {`[a-[]`, 3, api.ErrForm}, {`[a-b-]`, 4, api.ErrForm},
		{`[\0]`, 2, api.ErrForm}, {`[\x5g]`, 4, api.ErrForm}, {`[a-\q]`, 4, api.ErrForm},
		// ranges of escapes of more bytes
		{`[\d-z]`, 3, api.ErrForm}, {`[a\w-z]`, 4, api.ErrForm}, {`[\d-]`, 3, api.ErrForm}, {`[\d-`, 3, api.ErrForm}, {`[\S-\d]`, 3, api.ErrForm}, {`[\d-\b]`, 3, api.ErrForm},
		{`[a-\d]`, 3, api.ErrForm}, {`[a-\d`, 3, api.ErrForm}, {`[xa-\W]`, 4, api.ErrForm}, {`[\n-\s]`, 4, api.ErrForm},
		// ranges that can't be
		{`[b-a]`, 1, api.ErrValue}, {`[^b-a]`, 2, api.ErrValue}, {`[xb-a]`, 2, api.ErrValue}, {`[a-bd-c]`, 4, api.ErrValue}, {`[b-a`, 1, api.ErrValue}, {`[b-a-c]`, 1, api.ErrValue}, {`[b-a\b]`, 1, api.ErrValue}, {`[\x62-a]`, 1, api.ErrValue}, {`[b-\x61]`, 1, api.ErrValue}, {`[\r-\t]`, 1, api.ErrValue}, {`[a-\-]`, 1, api.ErrValue}, {"[\xff-\x80]", 1, api.ErrValue},
		{`[^`, 2, api.ErrForm},
	}
	for _, b := range []byte("123456789bBAzZGQEkpP") {
		s := `\` + string(rune(b))
		l = append(l, fault{s, 0, api.ErrOther}, fault{s + "{L}", 0, api.ErrOther}, fault{"[" + s + "]", 1, api.ErrOther}, fault{"[^a" + s, 3, api.ErrOther}, fault{"[a-" + s + "]", 3, api.ErrOther})
	}
	taken := escapes()
	for b := range 256 {
		s := `\` + string([]byte{byte(b)})
		if _, ok := taken[s]; !ok && !strings.ContainsRune("x123456789bBAzZGQEkpP", rune(b)) {
			l = append(l, fault{s, 1, api.ErrForm}, fault{"[" + s + "]", 2, api.ErrForm})
		}
	}
	return l
}

// otherFaults are the faults of all other tokens.
func otherFaults() []fault {
	return []fault{
		{"^", 0, api.ErrOther}, {"$", 0, api.ErrOther}, {"]", 0, api.ErrForm}, {"}", 0, api.ErrForm}, {"^]", 0, api.ErrOther}, {"]^", 0, api.ErrForm},
		{"(?", 0, api.ErrOther}, {"(?=a)", 0, api.ErrOther}, {"(?!a)", 0, api.ErrOther}, {"(?<a>b)", 0, api.ErrOther}, {"(?P<a>b)", 0, api.ErrOther}, {"(?i)", 0, api.ErrOther}, {"(??)", 0, api.ErrOther}, {"(?)", 0, api.ErrOther}, {"(?*", 0, api.ErrOther}, {"((?#", 1, api.ErrOther},
		{"*+", 1, api.ErrOther}, {"++", 1, api.ErrOther}, {"?+", 1, api.ErrOther}, {"{2}+", 3, api.ErrOther}, {"{2,}+", 4, api.ErrOther}, {"{2,3}+", 5, api.ErrOther},
		{"*?+", 2, api.ErrOther}, {"??+", 2, api.ErrOther}, {"+?+", 2, api.ErrOther}, {"{2,3}?+", 6, api.ErrOther}, {"???+", 3, api.ErrOther}, {"**+", 2, api.ErrOther}, {"*++", 1, api.ErrOther},
		{"{1001}", 1, api.ErrValue}, {"{0001001}", 1, api.ErrValue}, {"{1001", 1, api.ErrValue}, {"{1001,", 1, api.ErrValue}, {"{1001x", 1, api.ErrValue}, {"{1001,1}", 1, api.ErrValue}, {"{1001,2000}", 1, api.ErrValue}, {"{5000,x}", 1, api.ErrValue},
		{"{0,1001}", 3, api.ErrValue}, {"{10,99999}", 4, api.ErrValue}, {"{2,1001", 3, api.ErrValue},
		{"{3,2}", 3, api.ErrValue}, {"{10,9}", 4, api.ErrValue}, {"{1,0}", 3, api.ErrValue}, {"{003,02}", 5, api.ErrValue}, {"{3,2", 3, api.ErrValue}, {"{3,2x}", 3, api.ErrValue}, {"{3,2}+", 3, api.ErrValue},
		{"{9223372036854775808}", 1, api.ErrValue}, {"{18446744073709551617}", 1, api.ErrValue}, {"{1,18446744073709551617}", 3, api.ErrValue}, {"{" + strings.Repeat("9", 5000) + "}", 1, api.ErrValue}, {"{18446744073709552616}", 1, api.ErrValue},
		{"{", 1, api.ErrForm}, {"{2", 2, api.ErrForm}, {"{2,", 3, api.ErrForm}, {"{2,3", 4, api.ErrForm},
		{"{}", 1, api.ErrForm}, {"{,}", 1, api.ErrForm}, {"{,2}", 1, api.ErrForm}, {"{a}", 1, api.ErrForm}, {"{-1}", 1, api.ErrForm}, {"{+1}", 1, api.ErrForm}, {"{ 1}", 1, api.ErrForm}, {"{1 }", 2, api.ErrForm}, {"{1;2}", 2, api.ErrForm}, {"{1, 2}", 3, api.ErrForm}, {"{1,,}", 3, api.ErrForm}, {"{1,2,}", 4, api.ErrForm}, {"{1,-1}", 3, api.ErrForm}, {"{1x}", 2, api.ErrForm}, {"{1,2x}", 4, api.ErrForm}, {"{1:", 2, api.ErrForm}, {"{1/", 2, api.ErrForm}, {"{{1}", 1, api.ErrForm},
	}
}

func checkFault(t *testing.T, p string, at int, e api.Errno) {
	t.Helper()
	if l, n, got := Scan(p); l != nil || n != at || got != e {
		t.Errorf("Scan(%.60q): %v, %d, %d; wanted %d, %d", p, l, n, got, at, e)
	}
}

func TestScanFaults(t *testing.T) {
	ahead := []string{"", "a", "(?:", `[^\]]`, "|a{2}?)", `\\`, "ab)*)"}
	for _, f := range append(setFaults(), otherFaults()...) {
		for _, a := range ahead {
			checkFault(t, a+f.text, len(a)+f.at, f.e)
		}
		if f.at == len(f.text) || f.text == "(?" { // what ends too early may go on
			continue
		}
		for _, b := range []string{"a", "^", "]", ")", "(?=", `\1`, "{1001}"} {
			checkFault(t, f.text+b, f.at, f.e)
		}
	}
}

func TestScanFaultsOfEachKind(t *testing.T) {
	for p, want := range map[string]fault{
		"a+b++":       {at: 4, e: api.ErrOther},
		"(a(?:b)(?<c": {at: 7, e: api.ErrOther},
		"a{3,2}":      {at: 4, e: api.ErrValue},
		"(?=a)":       {at: 0, e: api.ErrOther},
		"[a^":         {at: 2, e: api.ErrForm},
		"a|b$":        {at: 3, e: api.ErrOther},
		"[a$]$":       {at: 4, e: api.ErrOther},
	} {
		checkFault(t, p, want.at, want.e)
	}
}

// P5.2

// calls are Class and Escape, and the marks by which begins what they read.
var calls = []struct {
	name string
	mark byte
	call func(string, int) (api.Set, int, api.Errno)
}{
	{"Class", '[', Class},
	{"Escape", '\\', Escape},
}

func TestSetsThatBeginThere(t *testing.T) {
	for _, c := range calls {
		n := 0
		for _, x := range parts() {
			if x.text[0] != c.mark {
				continue
			}
			n++
			for _, ahead := range []string{"", "a", `\`, "[", "]^", "(?=", "{1001}"} {
				for _, behind := range []string{"", "]", "^", "\\", "-", "{1001}"} {
					s, to, e := c.call(ahead+x.text+behind, len(ahead))
					if s != x.Set || to != len(ahead)+len(x.text) || e != api.OK {
						t.Errorf("%s(%q, %d): %x, %d, %d", c.name, ahead+x.text+behind, len(ahead), s, to, e)
					}
				}
			}
		}
		if n == 0 {
			t.Errorf("%s: nothing was read", c.name)
		}
	}
}

func TestFaultsOfSets(t *testing.T) {
	for _, c := range calls {
		n := 0
		for _, f := range setFaults() {
			if f.text[0] != c.mark {
				continue
			}
			n++
			for _, ahead := range []string{"", "a", `\`, "[", "^]"} {
				s, at, e := c.call(ahead+f.text, len(ahead))
				if s != (api.Set{}) || at != len(ahead)+f.at || e != f.e {
					t.Errorf("%s(%q, %d): %x, %d, %d", c.name, ahead+f.text, len(ahead), s, at, e)
				}
			}
		}
		if n == 0 {
			t.Errorf("%s: nothing was read", c.name)
		}
	}
}

func TestNothingBeginsThere(t *testing.T) {
	const p = `a[b]\d]x`
	for _, c := range calls {
		for i := -3; i < len(p)+3; i++ {
			if 0 <= i && i < len(p) && p[i] == c.mark {
				continue
			}
			if s, at, e := c.call(p, i); s != (api.Set{}) || at != 0 || e != api.ErrRange {
				t.Errorf("%s(%q, %d): %x, %d, %d", c.name, p, i, s, at, e)
			}
		}
		for _, i := range []int{math.MinInt, math.MaxInt, 0, 1, -1} {
			if s, at, e := c.call("", i); s != (api.Set{}) || at != 0 || e != api.ErrRange {
				t.Errorf("%s of nothing, %d: %x, %d, %d", c.name, i, s, at, e)
			}
		}
	}
}

func TestSetsOfLongTexts(t *testing.T) {
	long := strings.Repeat("a", 2*api.MaxText)
	if s, to, e := Class("["+long+"]", 0); s != bytes.Of('a') || to != len(long)+2 || e != api.OK {
		t.Errorf("Class: %x, %d, %d", s, to, e)
	}
	if s, to, e := Escape(long+`\n`, len(long)); s != bytes.Of(10) || to != len(long)+2 || e != api.OK {
		t.Errorf("Escape: %x, %d, %d", s, to, e)
	}
}

// Of any bytes: tokens that lie beside one another, or one fault that no byte
// behind it changes.
func TestScanOfAnyBytes(t *testing.T) {
	seed := uint64(1)
	next := func(n int) int {
		seed = seed*6364136223846793005 + 1442695040888963407
		return int(seed>>33) % n
	}
	marks := `[]^-\x0dab{}1,?*+(:)|.$`
	for range 200000 {
		var b []byte
		for range next(12) {
			if next(8) == 0 {
				b = append(b, byte(next(256)))
			} else {
				b = append(b, marks[next(len(marks))])
			}
		}
		p := string(b)
		l, n, e := Scan(p)
		if e != api.OK {
			if l != nil || n < 0 || n > len(p) {
				t.Fatalf("Scan(%q): %v, %d, %d", p, l, n, e)
			}
			if n < len(p) { // a bracket, as a digit or a colon might mend what stands at the end
				checkFault(t, p+")"+marks[next(len(marks)):], n, e)
			}
			continue
		}
		at := 0
		for _, x := range l {
			if x.From != at || x.To <= at || x.Kind != Set && x.Set != (api.Set{}) || x.Kind != Count && (x.Min != 0 || x.Max != 0 || x.Lazy) {
				t.Fatalf("Scan(%q): %v", p, l)
			}
			at = x.To
		}
		if at != len(p) || n != len(l) {
			t.Fatalf("Scan(%q): %v, %d", p, l, n)
		}
	}
}
