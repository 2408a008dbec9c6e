package commit

import (
	"errors"

	"codicil/api"
)

// step is a part of a call, with the name that it has in an error.
type step struct {
	name string
	do   func() api.Errno
}

// failure is what has gone wrong, with the step at which it has.
type failure struct {
	step string
	err  error
}

func (f *failure) Error() string { return f.step + ": " + f.err.Error() }

func (f *failure) Unwrap() error { return f.err }

// run goes through a row of steps till one tells an error.
func run(row []step) error {
	for _, s := range row {
		if err := s.do(); err != api.OK {
			return &failure{s.name, err}
		}
	}
	return nil
}

// told is the number of an error, whatever it is wrapped with; OK without one.
func told(err error) api.Errno {
	number := api.OK
	errors.As(err, &number)
	return number
}
