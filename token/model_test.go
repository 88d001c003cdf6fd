package token

import (
	"regexp"
	"slices"
	"strconv"
	"testing"

	"caltrop/api"
	"caltrop/bytes"
)

// The shapes of tokens, as texts of ASCII bytes, values let be.
const (
	one   = `(?:\\(?:[\\|()\[\]{}*+?.^$/\-ntrfv]|x[0-9a-fA-F]{2}))`
	more  = `(?:\\[dwsDWS])`
	end   = `(?:[^\[\]\\^-]|` + one + `)`
	items = `(?:` + end + `-` + end + `|` + end + `|` + more + `)+`
	tell  = `\{[0-9]+(?:,[0-9]*)?\}`
	shape = `(?s)^(?:\||\(\?:|\(|\)|(?:[*+?]|` + tell + `)\??|` + one + `|` + more + `|\[\^?` + items + `\]|[^|()*+?{}\[\]\\^$])`
)

var (
	whole   = regexp.MustCompile(shape + `$`)
	longest = func() *regexp.Regexp {
		r := regexp.MustCompile(shape)
		r.Longest()
		return r
	}()
	numbers = regexp.MustCompile(`^\{([0-9]+)(,([0-9]+))?`)
	escape  = regexp.MustCompile(one + "|" + more)
	ranges  = regexp.MustCompile(`(?s)(` + end + `)-(` + end + `)|` + end + `|` + more)
)

// goesOn tells whether a text is a beginning of a token.
func goesOn(s string) bool {
	return slices.ContainsFunc([]string{"", ":", "n", "n]", "11", "11]", "1", "1]", "]", "a]", "1}", "}"}, func(tail string) bool {
		return whole.MatchString(s + tail)
	})
}

// meant is the bytes of a text of a set, as another reader of patterns takes them.
func meant(met map[string]api.Set, s string) api.Set {
	set, ok := met[s]
	if ok {
		return set
	}
	text := s
	if s[0] == '\\' {
		text = "[" + s + "]"
	}
	text = escape.ReplaceAllStringFunc(text, func(x string) string {
		switch x { // that reader's blanks lack the byte 11
		case `\s`:
			return "[:space:]"
		case `\S`:
			return "[:^space:]"
		}
		return x
	})
	r := regexp.MustCompile(`^(?:` + text + `)$`)
	for b := range 256 {
		if r.MatchString(string(rune(b))) {
			set = bytes.Union(set, bytes.Of(byte(b)))
		}
	}
	met[s] = set
	return set
}

// number is a number that is told, or a greater one than may be.
func number(s string) int {
	n, err := strconv.Atoi(s)
	if err != nil || n > api.MaxCount {
		return api.MaxCount + 1
	}
	return n
}

// A model is a pattern, held against shapes.
type model struct {
	text string
	met  map[string]api.Set
}

// wrongValue is where a token that begins there has what can't be.
func (m model) wrongValue(from, to int) (int, bool) {
	if l := numbers.FindStringSubmatchIndex(m.text[from:]); l != nil {
		least := number(m.text[from+l[2] : from+l[3]])
		if least > api.MaxCount {
			return from + l[2], true
		}
		if l[6] >= 0 {
			most := number(m.text[from+l[6] : from+l[7]])
			return from + l[6], most > api.MaxCount || most < least
		}
	}
	if m.text[from] != '[' {
		return 0, false
	}
	begin := from + 1
	if begin < to && m.text[begin] == '^' {
		begin++
	}
	for _, l := range ranges.FindAllStringSubmatchIndex(m.text[begin:to], -1) {
		if l[2] >= 0 {
			a, _ := bytes.First(meant(m.met, "["+m.text[begin+l[2]:begin+l[3]]+"]"))
			b, _ := bytes.First(meant(m.met, "["+m.text[begin+l[4]:begin+l[5]]+"]"))
			if b < a {
				return begin + l[0], true
			}
		}
	}
	return 0, false
}

// fault is what is told of a text that is no token where it begins.
func (m model) fault(from int) (int, api.Errno) {
	if b := m.text[from]; b == '^' || b == '$' {
		return from, api.ErrOther
	}
	at := from
	for at < len(m.text) && goesOn(m.text[from:at+1]) {
		at++
	}
	if at == from {
		return at, api.ErrForm
	}
	if place, ok := m.wrongValue(from, at); ok {
		return place, api.ErrValue
	}
	if at == len(m.text) || m.text[at-1] != '\\' {
		return at, api.ErrForm
	}
	switch b := m.text[at]; {
	case slices.Contains([]byte("123456789bBAzZGQEkpP"), b):
		return at - 1, api.ErrOther
	case at-2 > from && slices.Contains([]byte("dwsDWS"), b): // a range that ends with more bytes than one
		return at - 1, api.ErrForm
	}
	return at, api.ErrForm
}

// token is the token of a shape.
func (m model) token(from, to int) Token {
	t := Token{From: from, To: to}
	switch s := m.text[from:to]; s[0] {
	case '|':
		t.Kind = Bar
	case '(':
		t.Kind = len(s) // that of an open one is 1
		if s == "(?:" {
			t.Kind = Free
		}
	case ')':
		t.Kind = Close
	case '*', '+', '?', '{':
		t.Kind, t.Lazy = Count, len(s) > 1 && s[len(s)-1] == '?'
		t.Min, t.Max = m.bounds(s)
	default:
		t.Set = meant(m.met, s)
	}
	return t
}

// bounds is a count's numbers.
func (m model) bounds(s string) (int, int) {
	switch s[0] {
	case '*':
		return 0, -1
	case '+':
		return 1, -1
	case '?':
		return 0, 1
	}
	l := numbers.FindStringSubmatch(s)
	least := number(l[1])
	switch {
	case l[2] != "":
		return least, number(l[3])
	case s[len(l[0])] == ',':
		return least, -1
	}
	return least, least
}

// scan is what Scan ought to answer.
func (m model) scan() ([]Token, int, api.Errno) {
	var l []Token
	for at := 0; at < len(m.text); {
		n := len(longest.FindString(m.text[at:]))
		to := at + n
		if n == 1 && m.text[at] == '(' && to < len(m.text) && m.text[to] == '?' {
			return nil, at, api.ErrOther
		}
		if n == 0 {
			place, e := m.fault(at)
			return nil, place, e
		}
		if place, ok := m.wrongValue(at, to); ok {
			return nil, place, api.ErrValue
		}
		t := m.token(at, to)
		if t.Kind == Count && to < len(m.text) && m.text[to] == '+' {
			return nil, to, api.ErrOther
		}
		l, at = append(l, t), to
	}
	return l, len(l), api.OK
}

// texts is all texts of so many bytes at most.
func texts(alphabet string, longest int) []string {
	all := []string{""}
	ahead := all
	for range longest {
		var next []string
		for _, s := range ahead {
			for i := range len(alphabet) {
				next = append(next, s+alphabet[i:i+1])
			}
		}
		all, ahead = append(all, next...), next
	}
	return all
}

// P5.1, P5.2: of all short texts, of such as are all shapes of one kind.
func TestAllShortTexts(t *testing.T) {
	met := map[string]api.Set{}
	for _, c := range []struct {
		ahead, alphabet string
		longest         int
	}{
		{"", "a(?:)|*+.^$]}", 4},
		{"", "a[]^-\\{},01?*+(:)|.$dbxB", 3},
		{"[", "ab-^]\\dx[1", 5},
		{"[^", "az-\\]nWb", 4},
		{"[a-", "a\\]xD1-", 4},
		{"\\", "\\x0aAgGdSk-", 4},
		{"\\x", "09:/afgAFG@`x", 3},
		{"a{", "013,}?+{", 5},
		{"a{1", "0123,}", 5},
		{"a{2,1", "019,}", 4},
	} {
		for _, tail := range texts(c.alphabet, c.longest) {
			p := c.ahead + tail
			want, n, e := model{p, met}.scan()
			if l, m, f := Scan(p); !slices.Equal(l, want) || m != n || f != e {
				t.Fatalf("Scan(%q): %v, %d, %d; wanted %v, %d, %d", p, l, m, f, want, n, e)
			}
		}
	}
}
