package path

import (
	"strconv"
	"strings"

	"codicil/api"
	"codicil/value"
)

const (
	end       = -1 // stands for a rune behind the last one, which no text has: a state says of the end what it says of any rune
	nameEnds  = ".[]"
	maxDigits = 3
)

// reader reads a path's text, rune by rune; what it has read so far says which of its methods takes the next one.
type reader struct {
	s     string
	at    int // of the rune that is being looked at; behind an error of what is wrong
	begin int // of the name or the number that is being read
	take  func(c rune) error
	steps []api.Step
}

func (r *reader) whole() error {
	r.take = r.first
	for at, c := range r.s {
		r.at = at
		if err := r.take(c); err != nil {
			return err
		}
	}
	r.at = len(r.s)
	return r.take(end)
}

// first takes the first rune: the one step that may be a field without a sign ahead begins here.
func (r *reader) first(c rune) error {
	if c == '[' {
		return r.behind(c)
	}
	r.take = r.inName
	return r.inName(c)
}

// behind takes the rune behind a whole step.
func (r *reader) behind(c rune) error {
	if c == end {
		return nil
	}
	if len(r.steps) == api.MaxSteps {
		return errForm
	}
	r.begin = r.at + 1
	switch c {
	case '.':
		r.take = r.inName
	case '[':
		r.take = r.inPlace
	default:
		return errForm
	}
	return nil
}

func (r *reader) inName(c rune) error {
	if c != end && !strings.ContainsRune(nameEnds, c) {
		return nil
	}
	name := r.s[r.begin:r.at]
	if !value.Name(name) {
		r.at = r.begin
		return errForm
	}
	r.done(api.Step{Name: name, At: field})
	return r.behind(c)
}

func (r *reader) inPlace(c rune) error {
	digits := r.s[r.begin:r.at]
	if '0' <= c && c <= '9' && digits != "0" && len(digits) < maxDigits {
		return nil
	}
	// Without digits this is an error, too.
	at, err := strconv.Atoi(digits)
	if err != nil || c != ']' {
		return errForm
	}
	r.done(api.Step{At: at})
	return nil
}

func (r *reader) done(step api.Step) {
	r.steps = append(r.steps, step)
	r.take = r.behind
}
