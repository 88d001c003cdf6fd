package quote

import (
	"fmt"
	"math"
	"slices"
	"strings"
	"testing"

	"caltrop/api"
)

// told is the word of one byte, after the document's own words.
func told(b byte) string {
	switch {
	case b == '\\':
		return `\\`
	case b >= 33 && b <= 126:
		return string(rune(b))
	}
	return fmt.Sprintf(`\x%02x`, b)
}

// a model knows the words of all bytes, and tries them: it is what Read is held against.
type model []string

func newModel() model {
	var m model
	for b := range 256 {
		m = append(m, told(byte(b)))
	}
	return m
}

// begins tells whether a word may begin so.
func (m model) begins(w string) bool {
	return strings.HasPrefix(`\e`, w) || m.goesOn(w)
}

func (m model) goesOn(w string) bool {
	for _, u := range m {
		if strings.HasPrefix(u, w) || strings.HasPrefix(w, u) && m.goesOn(w[len(u):]) {
			return true
		}
	}
	return w == ""
}

// fault is where a text stops being a word's beginning.
func (m model) fault(w string) int {
	for i := range len(w) {
		if !m.begins(w[:i+1]) {
			return i
		}
	}
	return len(w)
}

// texts is all texts of so many bytes at most.
func texts(alphabet string, longest int) []string {
	all := []string{""}
	ahead := all
	for range longest {
		var next []string
		for _, s := range ahead {
			for i := range len(alphabet) {
				next = append(next, s+alphabet[i:i+1])
			}
		}
		all, ahead = append(all, next...), next
	}
	return all
}

// P2.1

func TestWrite(t *testing.T) {
	for s, want := range map[string]string{
		"":              `\e`,
		"a \\":          `a\x20\\`,
		"\\e":           `\\e`,
		"\\":            `\\`,
		"!~":            `!~`,
		"\x00\n\x1f\"'": `\x00\x0a\x1f"'`,
		"\x7f\x80\xff":  `\x7f\x80\xff`,
		"\u00e9":        `\xc3\xa9`,
	} {
		if got := Write(s); got != want {
			t.Errorf("Write(%q): %s", s, got)
		}
	}
	all, want := "", ""
	for b := range 256 {
		one := string([]byte{byte(b)})
		if got := Write(one); got != told(byte(b)) {
			t.Errorf("Write(%q): %s", one, got)
		}
		all, want = all+one, want+told(byte(b))
	}
	if Write(all) != want {
		t.Error("Write of all bytes")
	}
}

func TestRead(t *testing.T) {
	for w, want := range map[string]string{
		`\e`:             "",
		`a\x20\\`:        "a \\",
		`\\e`:            "\\e",
		`\\x41`:          "\\x41",
		`\x00\xff\x7f`:   "\x00\xff\x7f",
		`e`:              "e",
		`\x20\x20`:       "  ",
		`[a-z]{2,}?|"#"`: `[a-z]{2,}?|"#"`,
	} {
		if s, n, e := Read(w); s != want || n != len(want) || e != api.OK {
			t.Errorf("Read(%s): %q, %d, %d", w, s, n, e)
		}
	}
}

func TestReadFaults(t *testing.T) {
	for w, at := range map[string]int{
		"":        0, // too early
		`\`:       1,
		`a\`:      2,
		`\x`:      2,
		`\x2`:     3,
		`ab\x7`:   5,
		" ":       0, // not in a word
		"a b":     1,
		"a\n":     1,
		"\x7f":    0,
		"a\x80":   1,
		`\e\e`:    2, // no bytes, and more
		`\ea`:     2,
		`a\e`:     2,
		`\a`:      1, // no escape
		`\X00`:    1,
		`\xA0`:    2, // no small digits
		`\x0A`:    3,
		`\xg0`:    2,
		`\x41`:    2, // what is told by itself
		`\x5c`:    2,
		`\x21`:    3,
		`\x2f`:    3,
		`\x7e`:    3,
		`\x20\x3`: 6,
		`\x1 `:    3,
	} {
		if s, got, e := Read(w); s != "" || got != at || e != api.ErrForm {
			t.Errorf("Read(%q): %q, %d, %d; wanted %d", w, s, got, e, at)
		}
	}
}

// P2.1, P2.3: of all short texts those are words that Write tells, and no others.
func TestReadOfAllShortTexts(t *testing.T) {
	m, words := newModel(), 0
	for _, w := range texts("\\xea02457cfF \x7f", 5) {
		s, n, e := Read(w)
		if e == api.OK {
			words++
			if n != len(s) || Write(s) != w {
				t.Fatalf("Read(%q): %q, %d", w, s, n)
			}
		} else if s != "" || e != api.ErrForm || n != m.fault(w) {
			t.Fatalf("Read(%q): %q, %d, %d; wanted %d", w, s, n, e, m.fault(w))
		}
	}
	if words == 0 {
		t.Error("no words")
	}
}

// P2.2

func TestNumber(t *testing.T) {
	for n, want := range map[int]string{
		0: "0", 7: "7", -7: "-7", 10: "10", -10: "-10", 1000: "1000",
		math.MaxInt: "9223372036854775807", math.MinInt: "-9223372036854775808",
	} {
		if got := Number(n); got != want {
			t.Errorf("Number(%d): %s", n, got)
		}
		if got, e := Parse(want); got != n || e != api.OK {
			t.Errorf("Parse(%s): %d, %d", want, got, e)
		}
	}
	for n := -1100; n <= 1100; n++ {
		if got, e := Parse(Number(n)); got != n || e != api.OK {
			t.Errorf("%d: %d, %d", n, got, e)
		}
	}
}

func TestParseFaults(t *testing.T) {
	for _, w := range []string{
		"", "-", "+", "+1", "+0", "-0", "00", "01", "-01", "007", "--1", "-+1", " 1", "1 ", "1\n", "1 2", "1_000", "0x10", "0b1", "1e3", "1.0", "a", "1a", "٣", "1\x00",
		"9223372036854775808", "-9223372036854775809", "18446744073709551616", "99999999999999999999999", strings.Repeat("9", 10000), strings.Repeat("0", 10000),
	} {
		if n, e := Parse(w); n != 0 || e != api.ErrForm {
			t.Errorf("Parse(%.40q): %d, %d", w, n, e)
		}
	}
}

func TestWords(t *testing.T) {
	for _, c := range []struct {
		l    []string
		want string
	}{
		{nil, ""},
		{[]string{""}, ""},
		{[]string{"a"}, "a"},
		{[]string{"a", "b c", "\\e"}, "a b c \\e"},
		{[]string{"", ""}, " "},
		{[]string{"", "a", ""}, " a "},
	} {
		before := slices.Clone(c.l)
		if got := Words(c.l...); got != c.want || !slices.Equal(c.l, before) {
			t.Errorf("Words(%q): %q", before, got)
		}
	}
}

func TestSplit(t *testing.T) {
	for line, want := range map[string][]string{
		"":          {""},
		" ":         {"", ""},
		"a":         {"a"},
		"a b":       {"a", "b"},
		"a  b":      {"a", "", "b"},
		" a ":       {"", "a", ""},
		"a\tb\nc":   {"a\tb\nc"},
		"\xa0 \xff": {"\xa0", "\xff"},
	} {
		got := Split(line)
		if !slices.Equal(got, want) {
			t.Errorf("Split(%q): %q", line, got)
		}
		if Words(got...) != line {
			t.Errorf("Split and Words of %q", line)
		}
		got[0] = "other"
		if !slices.Equal(Split(line), want) {
			t.Errorf("Split(%q), told again", line)
		}
	}
}

// P2.3

func TestWriteAndReadUndoEachOther(t *testing.T) {
	for i := range 256 {
		for k := range 256 {
			s := string([]byte{byte(i), byte(k)})
			if got, n, e := Read(Write(s)); got != s || n != 2 || e != api.OK {
				t.Fatalf("%q: %q, %d, %d", s, got, n, e)
			}
		}
	}
	long := strings.Repeat("a\\ \xff", 1<<16)
	for _, s := range []string{"", "\\e", "\\x00", long} {
		if got, n, e := Read(Write(s)); got != s || n != len(s) || e != api.OK {
			t.Errorf("%.20q: %d, %d", s, n, e)
		}
	}
}

func TestWordsHaveNoBlanks(t *testing.T) {
	for b := range 256 {
		w := Write("a" + string([]byte{byte(b)}))
		if l := Split(w); len(l) != 1 || l[0] != w || strings.ContainsAny(w, "\n\r\t ") {
			t.Errorf("byte %d: %q", b, w)
		}
	}
}
