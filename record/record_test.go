package record

import (
	"math"
	"slices"
	"strings"
	"testing"

	"caltrop/api"
	"caltrop/core"
	"caltrop/verdict"
)

// other is a record in which no two fields are alike.
var other = verdict.Record{
	Err: 9, At: 10, Kind: 1, Degree: 11, Most: 12, X: "x y", Y: "\\", Z: "\xff\n", Stops: true,
	Places: 13, Live: 14, Pairs: 15, Triples: 16, Vectors: 17,
}

const otherLine = `verdict 9 10 steep 11 12 x\x20y \\ \xff\x0a yes 13 14 15 16 17`

// emptyLine is the line of a record of zero values.
const emptyLine = `verdict 0 0 flat 0 0 \e \e \e no 0 0 0 0 0`

// P22.1

func TestKind(t *testing.T) {
	for kind, name := range map[int]string{
		0: "flat", 1: "steep", 2: "wild", 3: "unknown",
		-1: "", 4: "", 5: "", math.MaxInt: "", math.MinInt: "",
	} {
		if got := Kind(kind); got != name {
			t.Errorf("Kind(%d): %q", kind, got)
		}
	}
}

// lines are records' lines, after the document's own words.
func lines() map[string]verdict.Record {
	return map[string]verdict.Record{
		emptyLine: {},
		otherLine: other,
		`verdict 0 0 wild 0 0 a a \e yes 2 2 2 0 0`:                                                                       verdict.Analyse("(a*)*b", core.Full, 100),
		`verdict 0 0 wild 0 0 a a \x00 yes 1 1 1 0 0`:                                                                     verdict.Analyse("(a*)*", core.Full, 100),
		`verdict 0 0 wild 0 0 a a \e no 1 1 1 0 0`:                                                                        verdict.Analyse("(a*)*", core.Full, 1),
		`verdict 0 0 steep 1 0 a a \e yes 3 3 5 5 0`:                                                                      verdict.Analyse("a*a*b", core.Full, 100),
		`verdict 0 0 flat 0 1 \e \e \e no 3 3 3 0 3`:                                                                      verdict.Analyse("a{2,3}", core.Full, 100),
		`verdict 0 0 unknown 0 0 \e \e \e no 3 3 5 5 0`:                                                                   verdict.Analyse("a*a*b", core.Full, 4),
		`verdict 5 4 flat 0 0 \e \e \e no 0 0 0 0 0`:                                                                      verdict.Analyse("a{3,2}", core.Full, 100),
		`verdict 6 0 flat 0 0 \e \e \e no 0 0 0 0 0`:                                                                      verdict.Analyse("(?=a)", core.Full, 100),
		`verdict 1 0 flat 0 0 \e \e \e no 0 0 0 0 0`:                                                                      verdict.Analyse("a", 4, 100),
		`verdict 10 0 wild 0 0 \e \e yes yes 0 0 0 0 0`:                                                                   {Err: api.ErrState, Kind: 2, Z: "yes", Stops: true},
		`verdict 0 9223372036854775807 unknown 0 9223372036854775807 \\e \e \\x00 no 0 0 0 0 9223372036854775807`:         {At: math.MaxInt, Kind: 3, Most: api.Most, X: `\e`, Z: `\x00`, Vectors: math.MaxInt},
		`verdict 0 0 flat 0 0 verdict pattern\x20 \x0a\x0d\x09 no 0 0 0 0 1`:                                              {X: "verdict", Y: "pattern ", Z: "\n\r\t", Vectors: 1},
		`verdict 7 1 flat 1 0 \xc3\xa9 ~! ` + strings.Repeat(`\x00`, 1000) + ` no 0 1 0 1 0`:                              {Err: 7, At: 1, Degree: 1, X: "\u00e9", Y: "~!", Z: strings.Repeat("\x00", 1000), Live: 1, Triples: 1},
		`verdict 0 0 flat 0 0 ` + strings.Repeat("a", 2*api.MaxText) + ` \e \e no 0 0 0 0 0`:                              {X: strings.Repeat("a", 2*api.MaxText)},
		`verdict 8 0 steep 0 0 \e ` + strings.Repeat(`\\`, api.MaxText) + ` ` + strings.Repeat("b", 99) + ` no 0 0 0 1 0`: {Err: 8, Kind: 1, Y: strings.Repeat(`\`, api.MaxText), Z: strings.Repeat("b", 99), Triples: 1},
	}
}

func TestWriteAndRead(t *testing.T) {
	for line, r := range lines() {
		if got, e := Write(r); got != line || e != api.OK {
			t.Errorf("Write of %.80q: %.80q, %d", line, got, e)
		}
		if got, e := Read(line); got != r || e != api.OK {
			t.Errorf("Read(%.80q): %.200v, %d", line, got, e)
		}
	}
}

// untold are records that can't be told, each by one field.
func untold() []verdict.Record {
	var l []verdict.Record
	wrong := func(change func(r *verdict.Record)) {
		r := other
		change(&r)
		l = append(l, r)
	}
	for _, n := range []int{-1, -2, math.MinInt} {
		wrong(func(r *verdict.Record) { r.Err = api.Errno(n) })
		wrong(func(r *verdict.Record) { r.At = n })
		wrong(func(r *verdict.Record) { r.Kind = n })
		wrong(func(r *verdict.Record) { r.Degree = n })
		wrong(func(r *verdict.Record) { r.Most = n })
		wrong(func(r *verdict.Record) { r.Places = n })
		wrong(func(r *verdict.Record) { r.Live = n })
		wrong(func(r *verdict.Record) { r.Pairs = n })
		wrong(func(r *verdict.Record) { r.Triples = n })
		wrong(func(r *verdict.Record) { r.Vectors = n })
	}
	for _, n := range []int{11, 12, math.MaxInt} {
		wrong(func(r *verdict.Record) { r.Err = api.Errno(n) })
		wrong(func(r *verdict.Record) { r.Kind = n })
	}
	wrong(func(r *verdict.Record) { r.Kind = 4 })
	return l
}

func TestUntold(t *testing.T) {
	for _, r := range untold() {
		if line, e := Write(r); line != "" || e != api.ErrArg {
			t.Errorf("Write(%v): %q, %d", r, line, e)
		}
		x := Entry{"a", core.Full, r}
		if text, e := Report(x); text != "" || e != api.ErrArg {
			t.Errorf("Report(%v): %q, %d", x, text, e)
		}
	}
}

func TestReadFaults(t *testing.T) {
	for _, line := range []string{
		"", " ", "verdict", "verdict ", "pattern 0 a", strings.Repeat(" ", 14),
		`Verdict 0 0 flat 0 0 \e \e \e no 0 0 0 0 0`,
		`pattern 0 0 flat 0 0 \e \e \e no 0 0 0 0 0`,
		`verdic 0 0 flat 0 0 \e \e \e no 0 0 0 0 0`,
		` 0 0 flat 0 0 \e \e \e no 0 0 0 0 0`,
		`0 0 flat 0 0 \e \e \e no 0 0 0 0 0`,
		emptyLine + "\n", emptyLine + "\r", emptyLine + " ", " " + emptyLine, emptyLine + " 0", emptyLine + emptyLine,
		`verdict 0 0 flat 0 0 \e \e \e no 0 0 0 0`,    // a number less
		`verdict 0 0 flat 0 0 \e \e no 0 0 0 0 0`,     // bytes less
		`verdict 0 0 flat 0 0 \e \e \e 0 0 0 0 0`,     // no answer
		`verdict 0 0 flat 0 0  \e \e no 0 0 0 0 0`,    // an empty word
		`verdict  0 0 flat 0 0 \e \e \e no 0 0 0 0 0`, // two blanks
		`verdict	0 0 flat 0 0 \e \e \e no 0 0 0 0 0`,
		`verdict 11 0 flat 0 0 \e \e \e no 0 0 0 0 0`, // no error
		`verdict -1 0 flat 0 0 \e \e \e no 0 0 0 0 0`,
		`verdict 00 0 flat 0 0 \e \e \e no 0 0 0 0 0`,
		`verdict 05 0 flat 0 0 \e \e \e no 0 0 0 0 0`,
		`verdict OK 0 flat 0 0 \e \e \e no 0 0 0 0 0`,
		`verdict 0 0 0 0 0 \e \e \e no 0 0 0 0 0`, // no kind
		`verdict 0 0 Flat 0 0 \e \e \e no 0 0 0 0 0`,
		`verdict 0 0 fla 0 0 \e \e \e no 0 0 0 0 0`,
		`verdict 0 0 flats 0 0 \e \e \e no 0 0 0 0 0`,
		`verdict 0 0  0 0 \e \e \e no 0 0 0 0 0`,
		`verdict 0 0 flat 0 0 \e \e \e NO 0 0 0 0 0`, // no answer
		`verdict 0 0 flat 0 0 \e \e \e true 0 0 0 0 0`,
		`verdict 0 0 flat 0 0 \e \e \e y 0 0 0 0 0`,
		`verdict 0 0 flat 0 0 \e \e \e  0 0 0 0 0`,
		`verdict 0 0 flat 0 0 \e \e \e no 0 0 0 0 \e`, // no number
		`verdict 0 0 flat 0 0 \e \e \e no 0 0 0 +1 0`,
		`verdict 0 0 flat 0 0 \e \e \e no 0 0 0 01 0`,
		`verdict 0 0 flat 0 0 \e \e \e no 0 0 0 -0 0`,
		`verdict 0 0 flat 0 0 \e \e \e no 0 0 0 9223372036854775808 0`,
		`verdict 0 0 flat 0 18446744073709551617 \e \e \e no 0 0 0 0 0`,
		`verdict 0 0 flat 0 0 \x41 \e \e no 0 0 0 0 0`, // no bytes
		`verdict 0 0 flat 0 0 \e\e \e \e no 0 0 0 0 0`,
		`verdict 0 0 flat 0 0 \e \ \e no 0 0 0 0 0`,
		`verdict 0 0 flat 0 0 \e \e \xFF no 0 0 0 0 0`,
		"verdict 0 0 flat 0 0 \\e \\e \xff no 0 0 0 0 0",
		"verdict 0 0 flat 0 0 \\e \\e a\n no 0 0 0 0 0",
		strings.Repeat(" ", 1<<24),
		strings.Repeat(emptyLine+" ", 1000),
	} {
		if r, e := Read(line); r != (verdict.Record{}) || e != api.ErrForm {
			t.Errorf("Read(%.80q): %v, %d", line, r, e)
		}
	}
}

// P22.2

func TestReport(t *testing.T) {
	for _, x := range []struct {
		l    []Entry
		text string
	}{
		{nil, ""},
		{[]Entry{{}}, "pattern 0 \\e\n" + emptyLine + "\n"},
		{[]Entry{{"a b", core.Search, other}}, "pattern 3 a\\x20b\n" + otherLine + "\n"},
		{
			[]Entry{{"\n", core.Prefix, other}, {"(a*)*b", core.Suffix, verdict.Record{}}, {"\n", core.Prefix, other}},
			"pattern 1 \\x0a\n" + otherLine + "\npattern 2 (a*)*b\n" + emptyLine + "\npattern 1 \\x0a\n" + otherLine + "\n",
		},
	} {
		before := slices.Clone(x.l)
		if text, e := Report(x.l...); text != x.text || e != api.OK || !slices.Equal(x.l, before) {
			t.Errorf("Report of %q: %q, %d", x.text, text, e)
		}
		if l, n, e := Parse(x.text); !slices.Equal(l, x.l) || n != len(x.l) || e != api.OK {
			t.Errorf("Parse(%q): %v, %d, %d", x.text, l, n, e)
		}
	}
}

func TestModes(t *testing.T) {
	for mode := -1; mode <= 4; mode++ {
		want := api.OK
		if mode < 0 || mode > 3 {
			want = api.ErrArg
		}
		if text, e := Report(Entry{}, Entry{"a", mode, other}); e != want || (text == "") != (e != api.OK) {
			t.Errorf("Report by mode %d: %q, %d", mode, text, e)
		}
	}
	for _, mode := range []int{math.MaxInt, math.MinInt} {
		if text, e := Report(Entry{"a", mode, other}, Entry{}); text != "" || e != api.ErrArg {
			t.Errorf("Report by mode %d: %q, %d", mode, text, e)
		}
	}
}

// long is an entry whose lines have so many bytes.
func long(n int) Entry {
	frame := len("pattern 0 \n" + emptyLine + "\n")
	return Entry{Pattern: strings.Repeat("a", n-frame)}
}

func TestLength(t *testing.T) {
	const half = api.MaxText / 2
	for _, x := range []struct {
		l []Entry
		e api.Errno
	}{
		{[]Entry{long(api.MaxText)}, api.OK},
		{[]Entry{long(api.MaxText + 1)}, api.ErrLong},
		{[]Entry{long(half), long(half)}, api.OK},
		{[]Entry{long(half), long(half + 1)}, api.ErrLong},
		{[]Entry{long(half + 1), long(half)}, api.ErrLong},
		{[]Entry{long(api.MaxText), {}}, api.ErrLong},
		{[]Entry{{Record: verdict.Record{Z: strings.Repeat("\x00", api.MaxText/4)}}}, api.ErrLong},
		{[]Entry{{Pattern: strings.Repeat("a", 1<<24)}}, api.ErrLong},
		{[]Entry{long(api.MaxText + 1), {Mode: 4}}, api.ErrArg}, // what is named first
		{[]Entry{long(api.MaxText + 1), {Record: verdict.Record{Vectors: -1}}}, api.ErrArg},
		{[]Entry{{Mode: -1}, long(api.MaxText + 1)}, api.ErrArg},
	} {
		text, e := Report(x.l...)
		if e != x.e || (text == "") != (e != api.OK) {
			t.Errorf("Report of %d entries: %d bytes, %d, not %d", len(x.l), len(text), e, x.e)
		}
		if e != api.OK {
			continue
		}
		if len(text) != api.MaxText {
			t.Errorf("Report: %d bytes", len(text))
		}
		if l, n, e := Parse(text); !slices.Equal(l, x.l) || n != len(x.l) || e != api.OK {
			t.Errorf("Parse of a long report: %d entries, %d, %d", len(l), n, e)
		}
		if l, n, e := Parse(text + "\n"); l != nil || n != 0 || e != api.ErrLong {
			t.Errorf("Parse of a longer one: %d entries, %d, %d", len(l), n, e)
		}
	}
	for _, text := range []string{strings.Repeat("\n", api.MaxText+1), strings.Repeat("x", 1<<22)} {
		if l, n, e := Parse(text); l != nil || n != 0 || e != api.ErrLong {
			t.Errorf("Parse of %d bytes: %d entries, %d, %d", len(text), len(l), n, e)
		}
	}
}

func TestParseFaults(t *testing.T) {
	const entry = "pattern 0 a\n" + emptyLine + "\n"
	for text, at := range map[string]int{
		"\n":                                          1,
		"\n" + entry:                                  1,
		entry + "\n":                                  3,
		entry + "\n" + entry:                          3,
		"pattern 0 a\n":                               2, // there is none behind it
		entry + "pattern 0 a\n":                       4,
		"pattern 0 a":                                 1, // it isn't ended
		entry + "pattern 0 a":                         3,
		entry + "p":                                   3,
		entry + " ":                                   3,
		strings.TrimRight(entry, "\n"):                2,
		entry + entry[:len(entry)-1]:                  4,
		"pattern 0 a\n\n":                             2,
		"pattern 0 a\n\n" + emptyLine + "\n":          2,
		"pattern 0 a\n" + entry:                       2,
		"pattern 0 a\npattern 0 a\n":                  2,
		emptyLine + "\n":                              1,
		entry + emptyLine + "\n":                      3,
		entry + "pattern 4 a\n":                       3,
		"pattern -1 a\n" + emptyLine + "\n":           1,
		"pattern 00 a\n" + emptyLine + "\n":           1,
		"pattern full a\n" + emptyLine + "\n":         1,
		"pattern  a\n" + emptyLine + "\n":             1,
		"pattern 0 \n" + emptyLine + "\n":             1,
		"pattern 0\n" + emptyLine + "\n":              1,
		"pattern 0 a b\n" + emptyLine + "\n":          1,
		"pattern 0 a \n" + emptyLine + "\n":           1,
		" pattern 0 a\n" + emptyLine + "\n":           1,
		"pattern 0 \\x41\n" + emptyLine + "\n":        1,
		"pattern 0 \xff\n" + emptyLine + "\n":         1,
		"Pattern 0 a\n" + emptyLine + "\n":            1,
		"pattern 0 a\r\n" + emptyLine + "\r\n":        1,
		"pattern 0 a\n" + emptyLine + "\r\n":          2,
		"pattern 0 a\n" + emptyLine + " \n":           2,
		"pattern 0 a\n verdict\n" + entry:             2,
		entry + "x\ny":                                3, // the first one of several
		"pattern 0 a\nx":                              2,
		strings.Repeat("\n", api.MaxText):             1,
		strings.Repeat(" ", api.MaxText):              1,
		strings.Repeat(entry, 1000) + "x":             2001,
		strings.Repeat(entry, 1000) + "pattern 0 a\n": 2002,
	} {
		if l, n, e := Parse(text); l != nil || n != at || e != api.ErrForm {
			t.Errorf("Parse(%.80q): %d entries, %d, %d; wanted %d", text, len(l), n, e, at)
		}
	}
}

// A record stays as it was read, whatever is done with a list of others.
func TestAnswersAreNew(t *testing.T) {
	text, _ := Report(Entry{"a", core.Full, other}, Entry{"b", core.Search, verdict.Record{}})
	l, _, _ := Parse(text)
	l[0] = Entry{}
	if again, n, e := Parse(text); n != 2 || e != api.OK || again[0] != (Entry{"a", core.Full, other}) {
		t.Errorf("Parse, again: %v, %d, %d", again, n, e)
	}
}
