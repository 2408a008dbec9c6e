package value

import (
	"slices"
	"strconv"
	"strings"
	"unicode/utf8"

	"codicil/api"
)

const (
	maxSource   = 65536
	maxRuneHex  = 6
	blanks      = " \t\n\r"
	nameEnds    = blanks + `:,{}[]"'`
	valueBegins = `ntfx"[{-0123456789`
)

// Parse is the value that a text tells.
func Parse(s string) (api.Value, api.Errno, int) {
	if len(s) > maxSource {
		return api.Value{}, api.ErrValueLong, 0
	}
	v, f := read(s)
	return v, f.err, f.at
}

// fault is what a reader gives up with.
type fault struct {
	err api.Errno
	at  int
}

// read is the reader's face: behind it the first fault ends all, however deep it is met.
func read(s string) (v api.Value, f fault) {
	defer func() {
		given := recover()
		if given == nil {
			return
		}
		own, is := given.(fault)
		if !is {
			panic(given)
		}
		f = own
	}()
	r := &reader{s: s}
	return Clone(r.whole()), fault{}
}

type reader struct {
	s     string
	at    int
	parts int // values that have been begun
}

func (r *reader) giveUp(err api.Errno, at int) { panic(fault{err, at}) }

// here is the byte at which the reader stands. It is 0 at the end: no form has that byte, so that the end is refused as any wrong byte is, at its own place.
func (r *reader) here() byte {
	if r.at < len(r.s) {
		return r.s[r.at]
	}
	return 0
}

// skip goes on behind blanks.
func (r *reader) skip() byte {
	for strings.IndexByte(blanks, r.here()) >= 0 {
		r.at++
	}
	return r.here()
}

func (r *reader) word(w string) {
	for at := range len(w) {
		if r.here() != w[at] {
			r.giveUp(api.ErrValueForm, r.at)
		}
		r.at++
	}
}

// whole reads all of s.
func (r *reader) whole() api.Value {
	r.skip()
	v := r.value(1)
	r.skip()
	if r.at < len(r.s) {
		r.giveUp(api.ErrValueForm, r.at)
	}
	return v
}

// value reads the value that begins right here.
func (r *reader) value(depth int) api.Value {
	if strings.IndexByte(valueBegins, r.here()) < 0 {
		r.giveUp(api.ErrValueForm, r.at)
	}
	if depth > api.MaxDepth {
		r.giveUp(api.ErrValueDeep, r.at)
	}
	if r.parts++; r.parts > api.MaxParts {
		r.giveUp(api.ErrValueMany, r.at)
	}
	return outside(r.content(depth))
}

func (r *reader) content(depth int) content {
	switch r.here() {
	case 'n':
		r.word("null")
		return null{}
	case 't':
		r.word("true")
		return truth(true)
	case 'f':
		r.word("false")
		return truth(false)
	case '"':
		return r.text()
	case 'x':
		return r.octets()
	case '[':
		return r.list(depth)
	case '{':
		return r.document(depth)
	}
	return r.number()
}

func (r *reader) number() content {
	begin := r.at
	if r.here() == '-' {
		r.at++
	}
	// Behind a 0 no number goes on: a digit there is left to whoever reads what comes next, and refuses it.
	if r.here() == '0' {
		r.at++
	} else {
		r.digits()
	}
	n, err := strconv.ParseInt(r.s[begin:r.at], 10, 64)
	if err != nil {
		r.giveUp(api.ErrValueLong, begin)
	}
	return number(n)
}

func (r *reader) digits() {
	begin := r.at
	for isDigit(rune(r.here())) {
		r.at++
	}
	if r.at == begin {
		r.giveUp(api.ErrValueForm, r.at)
	}
}

func (r *reader) octets() content {
	begin := r.at
	r.word("x'")
	var out octets
	for r.here() != '\'' {
		high := r.hex()
		out = append(out, byte(high<<4|r.hex()))
	}
	r.at++
	if len(out) > api.MaxBytes {
		r.giveUp(api.ErrValueLong, begin)
	}
	return out
}

func (r *reader) hex() rune {
	c := rune(r.here())
	switch {
	case isDigit(c):
		c -= '0'
	case 'a' <= c && c <= 'f':
		c -= 'a' - 10
	case 'A' <= c && c <= 'F':
		c -= 'A' - 10
	default:
		r.giveUp(api.ErrValueForm, r.at)
	}
	r.at++
	return c
}

func (r *reader) text() content {
	begin := r.at
	r.at++
	out := []byte(r.plain())
	for r.here() == '\\' {
		r.at++
		out = utf8.AppendRune(out, r.escape())
		out = append(out, r.plain()...)
	}
	r.word(`"`)
	if n, _ := runes(string(out)); n > api.MaxText {
		r.giveUp(api.ErrValueLong, begin)
	}
	return text(out)
}

// plain reads the runes that stand for themselves, up to the first one that does not.
func (r *reader) plain() string {
	rest := r.s[r.at:]
	for at, c := range rest {
		if c < ' ' || c == '"' || c == '\\' {
			rest = rest[:at]
			break
		}
		if torn(rest[at:], c) {
			r.giveUp(api.ErrValueText, r.at+at)
		}
	}
	r.at += len(rest)
	return rest
}

// escape reads the rune that is told behind a \.
func (r *reader) escape() rune {
	c := rune(r.here())
	switch c {
	case '"', '\\':
	case 'n':
		c = '\n'
	case 'r':
		c = '\r'
	case 't':
		c = '\t'
	case 'u':
		r.at++
		return r.numbered()
	default:
		r.giveUp(api.ErrValueForm, r.at)
	}
	r.at++
	return c
}

func (r *reader) numbered() rune {
	r.word("{")
	c := r.hex()
	for n := 1; n < maxRuneHex && r.here() != '}'; n++ {
		c = c<<4 | r.hex()
	}
	// Only the end of the digits tells that their number is no rune.
	if !utf8.ValidRune(c) {
		r.giveUp(api.ErrValueForm, r.at)
	}
	r.word("}")
	return c
}

func (r *reader) list(depth int) content {
	var out list
	r.items(']', func() { out = append(out, r.value(depth+1)) })
	return out
}

func (r *reader) document(depth int) content {
	var out document
	r.items('}', func() {
		name, at := r.name(out)
		r.skip()
		r.word(":")
		r.skip()
		v := r.value(depth + 1)
		out = slices.Insert(out, at, api.Field{Name: name, Value: v})
	})
	return out
}

// items reads what stands between two signs; one reads each, and stands at its first byte.
func (r *reader) items(end byte, one func()) {
	r.at++
	if r.skip() != end {
		one()
	}
	for r.skip() != end {
		r.word(",")
		r.skip()
		one()
	}
	r.at++
}

// name reads a name, and tells where it stands among those that rise already.
func (r *reader) name(rising document) (string, int) {
	name := r.s[r.at:]
	if end := strings.IndexAny(name, nameEnds); end >= 0 {
		name = name[:end]
	}
	at, found := slices.BinarySearchFunc(rising, name, func(f api.Field, name string) int { return strings.Compare(f.Name, name) })
	if found || !Name(name) {
		r.giveUp(api.ErrValueForm, r.at)
	}
	r.at += len(name)
	return name, at
}
