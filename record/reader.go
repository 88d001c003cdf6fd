package record

import (
	"strings"

	"caltrop/api"
	"caltrop/degree"
	"caltrop/quote"
	"caltrop/verdict"
)

// words are those of a line that aren't taken yet.
type words struct {
	left []string
}

// take takes the next one; behind the last one it is an empty one, that can't stand
// anywhere.
func (w *words) take() string {
	if len(w.left) == 0 {
		return ""
	}
	next := w.left[0]
	w.left = w.left[1:]
	return next
}

// A reader takes what a line tells, word by word. Once a word can't stand where it
// does, all that is told is worth nothing.
type reader struct {
	words
	wrong bool
}

// newReader is a reader of a line of so many words. A line that has others isn't
// split, as it may have far more than can be kept: it is read as one of none.
func newReader(line string, many int) *reader {
	if strings.Count(line, " ") != many-1 {
		return &reader{}
	}
	return &reader{words: words{quote.Split(line)}}
}

// must notes whether what was taken may stand where it did.
func (r *reader) must(right bool) {
	r.wrong = r.wrong || !right
}

// word takes a word that must be this one.
func (r *reader) word(w string) {
	r.must(r.take() == w)
}

// number takes a number.
func (r *reader) number() int {
	n, e := quote.Parse(r.take())
	r.must(e == api.OK)
	return n
}

// bytes takes bytes.
func (r *reader) bytes() string {
	s, _, e := quote.Read(r.take())
	r.must(e == api.OK)
	return s
}

// answer takes whether something is so.
func (r *reader) answer() bool {
	w := r.take()
	r.must(w == yes || w == no)
	return w == yes
}

// kind takes a kind's name.
func (r *reader) kind() int {
	name := r.take()
	if name == unknown {
		return verdict.Unknown
	}
	kind, ok := degree.Kind(name)
	r.must(ok)
	return kind
}

// record takes the words of a record's line, in their order.
func (r *reader) record() verdict.Record {
	r.word(verdictWord)
	return verdict.Record{
		Err:     api.Errno(r.number()),
		At:      r.number(),
		Kind:    r.kind(),
		Degree:  r.number(),
		Most:    r.number(),
		X:       r.bytes(),
		Y:       r.bytes(),
		Z:       r.bytes(),
		Stops:   r.answer(),
		Places:  r.number(),
		Live:    r.number(),
		Pairs:   r.number(),
		Triples: r.number(),
		Vectors: r.number(),
	}
}

// head takes the words of the line ahead of a record's, in their order.
func (r *reader) head() Entry {
	r.word(patternWord)
	return Entry{Mode: r.number(), Pattern: r.bytes()}
}

// A sheet is the lines of a report that aren't taken yet.
type sheet struct {
	left string
	at   int // the number of the line that was taken last, or looked for
}

// line takes the next line. One that isn't ended, or isn't there, is as an empty
// one: none of these can stand anywhere.
func (s *sheet) line() string {
	line, left, ended := strings.Cut(s.left, "\n")
	s.left = left
	s.at++
	if !ended {
		return ""
	}
	return line
}

// entry takes the lines of an entry, up to the first one that can't stand there, and
// tells whether none was such.
func (s *sheet) entry() (Entry, bool) {
	r := newReader(s.line(), patternWords)
	x := r.head()
	if r.wrong || !isMode(x.Mode) {
		return Entry{}, false
	}
	record, e := Read(s.line())
	x.Record = record
	return x, e == api.OK
}
