package record

import (
	"fmt"
	"regexp"
	"slices"
	"strconv"
	"strings"
	"testing"

	"caltrop/api"
	"caltrop/core"
	"caltrop/sample"
	"caltrop/verdict"
)

// What the model tells of a line, it tells by its form as a whole.
const (
	formNumber = `(0|[1-9][0-9]*)`
	formBytes  = `(\\e|(?:[!-\[\]-~]|\\\\|\\x(?:[01][0-9a-f]|20|7f|[89a-f][0-9a-f]))+)`
)

var (
	formRecord = regexp.MustCompile(`\A` + strings.Join([]string{
		"verdict", "([0-9]|10)", formNumber, "(flat|steep|wild|unknown)", formNumber, formNumber,
		formBytes, formBytes, formBytes, "(yes|no)",
		formNumber, formNumber, formNumber, formNumber, formNumber,
	}, " ") + `\z`)
	formHead = regexp.MustCompile(`\Apattern ([0-3]) ` + formBytes + `\z`)
	hexByte  = regexp.MustCompile(`\\x..|\\\\|\\e`)
)

// bytesOf is what a word tells.
func bytesOf(w string) string {
	return hexByte.ReplaceAllStringFunc(w, func(x string) string {
		switch x {
		case `\\`:
			return `\`
		case `\e`:
			return ""
		}
		n, _ := strconv.ParseUint(x[2:], 16, 8)
		return string([]byte{byte(n)})
	})
}

// wordOf is the word that tells bytes.
func wordOf(s string) string {
	w := ""
	for _, b := range []byte(s) {
		switch {
		case b == '\\':
			w += `\\`
		case b > ' ' && b <= '~':
			w += string(rune(b))
		default:
			w += fmt.Sprintf(`\x%02x`, b)
		}
	}
	if w == "" {
		return `\e`
	}
	return w
}

// lineOf is a record's line.
func lineOf(r verdict.Record) string {
	kind := []string{"flat", "steep", "wild", "unknown"}[r.Kind]
	stops := map[bool]string{true: "yes", false: "no"}[r.Stops]
	return fmt.Sprintf("verdict %d %d %s %d %d %s %s %s %s %d %d %d %d %d", r.Err, r.At, kind, r.Degree, r.Most, wordOf(r.X), wordOf(r.Y), wordOf(r.Z), stops, r.Places, r.Live, r.Pairs, r.Triples, r.Vectors)
}

// recordOf is the record of a line, if it is one of some.
func recordOf(line string) (verdict.Record, bool) {
	m := formRecord.FindStringSubmatch(line)
	if m == nil {
		return verdict.Record{}, false
	}
	right := true
	number := func(i int) int {
		n, err := strconv.Atoi(m[i])
		right = right && err == nil // it may be beyond all ints
		return n
	}
	r := verdict.Record{
		Err: api.Errno(number(1)), At: number(2), Kind: slices.Index([]string{"flat", "steep", "wild", "unknown"}, m[3]), Degree: number(4), Most: number(5),
		X: bytesOf(m[6]), Y: bytesOf(m[7]), Z: bytesOf(m[8]), Stops: m[9] == "yes",
		Places: number(10), Live: number(11), Pairs: number(12), Triples: number(13), Vectors: number(14),
	}
	if !right {
		return verdict.Record{}, false
	}
	return r, true
}

// entriesOf is the entries of a report, or the line that can't stand there.
func entriesOf(text string) ([]Entry, int, bool) {
	var l []Entry
	rest := strings.SplitAfter(text, "\n") // the last one isn't ended
	for at := 0; at+1 < len(rest) || rest[at] != ""; at += 2 {
		head := strings.TrimSuffix(rest[at], "\n")
		m := formHead.FindStringSubmatch(head)
		if m == nil || head == rest[at] {
			return nil, at + 1, false
		}
		body := strings.TrimSuffix(rest[at+1], "\n")
		r, ok := recordOf(body)
		if !ok || body == rest[at+1] {
			return nil, at + 2, false
		}
		l = append(l, Entry{bytesOf(m[2]), int(m[1][0] - '0'), r})
	}
	return l, len(l), true
}

// holdRead holds what is read of a line against the model, and tells whether it is
// a record's.
func holdRead(t *testing.T, line string) bool {
	t.Helper()
	want, ok := recordOf(line)
	r, e := Read(line)
	if r != want || (e == api.OK) != ok || !ok && e != api.ErrForm {
		t.Fatalf("Read(%q): %v, %d, not %v, %v", line, r, e, want, ok)
	}
	if !ok {
		return false
	}
	if w, e := Write(r); w != line || e != api.OK {
		t.Fatalf("Write(%v): %q, %d, not %q", r, w, e, line)
	}
	return true
}

// holdParse holds what is read of a report against the model, and tells whether it
// is one.
func holdParse(t *testing.T, text string) bool {
	t.Helper()
	want, at, ok := entriesOf(text)
	l, n, e := Parse(text)
	if !slices.Equal(l, want) || n != at || (e == api.OK) != ok || !ok && e != api.ErrForm {
		t.Fatalf("Parse(%q): %v, %d, %d, not %v, %d, %v", text, l, n, e, want, at, ok)
	}
	if !ok {
		return false
	}
	if w, e := Report(l...); w != text || e != api.OK {
		t.Fatalf("Report(%v): %q, %d, not %q", l, w, e, text)
	}
	return true
}

// shortLines are records' lines, that aren't long.
func shortLines() []string {
	var l []string
	for line := range lines() {
		if len(line) < 200 {
			l = append(l, line)
		}
	}
	slices.Sort(l)
	return l
}

// P22.3: what is read is what is written, of all texts near a line.

func TestOtherWords(t *testing.T) {
	candidates := strings.Split(` 0 1 10 11 00 01 -0 -1 +1 0x1 9223372036854775807 9223372036854775808 flat steep wild unknown Flat yes no Yes verdict pattern \e \\ \\e \x00 \x20 \x0a \x41 \xff \xFF \ \x a a\e \ea `+"a\n \n \t", " ")
	right, wrong := 0, 0
	for _, line := range shortLines() {
		w := strings.Split(line, " ")
		for i := range w {
			for _, x := range candidates {
				other := slices.Clone(w)
				other[i] = x
				more := slices.Insert(slices.Clone(w), i, x)
				for _, l := range [][]string{other, more, slices.Delete(slices.Clone(w), i, i+1)} {
					if holdRead(t, strings.Join(l, " ")) {
						right++
					} else {
						wrong++
					}
				}
			}
		}
	}
	if right < 1000 || wrong < 1000 {
		t.Errorf("%d are right, %d aren't", right, wrong)
	}
}

func TestOtherBytes(t *testing.T) {
	right, wrong := 0, 0
	for _, line := range shortLines() {
		for i := range len(line) {
			for b := range 256 {
				x := string([]byte{byte(b)})
				for _, other := range []string{line[:i] + x + line[i+1:], line[:i] + x + line[i:], line[:i] + line[i+1:]} {
					if holdRead(t, other) {
						right++
					} else {
						wrong++
					}
				}
			}
		}
	}
	if right < 1000 || wrong < 1000 {
		t.Errorf("%d are right, %d aren't", right, wrong)
	}
}

// All reports of some pieces of lines are read as the model reads them.
func TestPieces(t *testing.T) {
	pieces := []string{"pattern 0 a", "pattern 3 \\e", "pattern 4 a", emptyLine, "\n", " ", "\nx"}
	right, wrong := 0, 0
	for text := range sample.Texts(pieces, 6) {
		if holdParse(t, text) {
			right++
		} else {
			wrong++
		}
	}
	if right != 3 || wrong < 1000 {
		t.Errorf("%d are right, %d aren't", right, wrong)
	}
}

// All reports of some lines are read as the model reads them, ended or not.
func TestLines(t *testing.T) {
	some := []string{"pattern 0 a", "pattern 3 \\e", "pattern 4 a", emptyLine, otherLine, emptyLine + " ", ""}
	texts := []string{""}
	right, wrong := 0, 0
	for range 6 {
		var longer []string
		for _, x := range texts {
			for _, line := range some {
				if holdParse(t, x+line+"\n") {
					right++
				} else {
					wrong++
				}
				if line != "" { // else nothing is there that isn't ended
					holdParse(t, x+line)
				}
				longer = append(longer, x+line+"\n")
			}
		}
		texts = longer
	}
	if right != 4+16+64 || wrong < 1000 {
		t.Errorf("%d are right, %d aren't", right, wrong)
	}
}

// What verdicts of patterns tell, by all modes and some budgets, is read as it was
// written.
func TestVerdicts(t *testing.T) {
	var all []Entry
	for _, p := range []string{"", "a", "a{2,3}", "(a*)*b", "a*a*", "a* \\x00a*\n", "(a|b)*a(a|b)*", "[^\\x00-\\xff]", ".*", "(?=a)", "(", "a{3,2}", "a{61}", "\xff*\xff*", "(\\x20|\\x20)*\\\\"} {
		for mode := core.Full; mode <= core.Search; mode++ {
			for _, budget := range []int{-1, 0, 1, 5, 1000} {
				r := verdict.Analyse(p, mode, budget)
				if line, e := Write(r); line != lineOf(r) || e != api.OK || !holdRead(t, line) {
					t.Errorf("Write(%v): %q, %d", r, line, e)
				}
				all = append(all, Entry{p, mode, r})
			}
		}
	}
	text, e := Report(all...)
	if e != api.OK || !holdParse(t, text) {
		t.Errorf("Report: %d", e)
	}
	l, n, e := Parse(text)
	if n != len(all) || e != api.OK || !slices.Equal(l, all) {
		t.Errorf("Parse: %d of %d, %d", n, len(all), e)
	}
}
