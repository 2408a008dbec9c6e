package commit

import (
	"errors"
	"slices"
	"testing"

	"codicil/api"
)

// TestRun: a row is gone through in its order, till a step tells an error; that is wrapped with the step.
func TestRun(t *testing.T) {
	for failing := range 5 {
		var done []int
		var row []step
		for i, name := range []string{"one", "two", "three", "four"} {
			row = append(row, step{name, func() api.Errno {
				done = append(done, i)
				if i == failing {
					return api.ErrIO
				}
				return api.OK
			}})
		}
		err := run(row)
		if failing == 4 {
			if err != nil || told(err) != api.OK || isUnsure(err) || len(done) != 4 {
				t.Errorf("%v, %v", err, done)
			}
			continue
		}
		var f *failure
		if !errors.As(err, &f) || f.step != row[failing].name || !errors.Is(err, api.ErrIO) || errors.Is(err, api.ErrDark) || told(err) != api.ErrIO {
			t.Errorf("%v", err)
		}
		if err.Error() != row[failing].name+": errno 6" || !slices.Equal(done, []int{0, 1, 2, 3}[:failing+1]) {
			t.Errorf("%v, %v", err, done)
		}
	}
}

// TestUnsure: only behind the last two steps of Apply it is not known which state counts.
func TestUnsure(t *testing.T) {
	for name, want := range map[string]bool{writeState: true, syncState: true, "sync the pages": false, "": false} {
		if err := run([]step{{name, func() api.Errno { return api.ErrDark }}}); isUnsure(err) != want {
			t.Errorf("%v: %v", err, !want)
		}
	}
}

// TestRefusal: what Open tells of an error.
func TestRefusal(t *testing.T) {
	for _, number := range []api.Errno{api.ErrDark, api.ErrIO, api.ErrCommitNone, api.ErrCommitCorrupt, api.ErrTreeForm, api.ErrPoolForm, api.ErrFreeForm, api.ErrRange} {
		want := number
		if number >= api.ErrPoolForm && number != api.ErrCommitNone || number == api.ErrRange {
			want = api.ErrCommitCorrupt
		}
		if got := refusal(&failure{"a step", number}); got != want {
			t.Errorf("%v: %v, not %v", number, got, want)
		}
	}
}
