package page

import (
	"testing"

	"codicil/api"
)

func TestReadTellsWhatWasRead(t *testing.T) {
	n, err := read([]byte{1, 2, 3}, func(r *reader) uint64 { return r.number(2) })
	if n != 0x0201 || err != api.OK {
		t.Errorf("%x and %v", n, err)
	}
}

func TestReadTellsWhatTheReaderGaveUp(t *testing.T) {
	for name, form := range map[string]func(*reader) int{
		"a number that is cut off":  func(r *reader) int { return int(r.number(4)) },
		"more than there is":        func(r *reader) int { return len(r.take(4)) },
		"what does not hold":        func(r *reader) int { r.must(false); return 1 },
		"another mark":              func(r *reader) int { r.mark("\x01\x03"); return 1 },
		"a mark that is cut off":    func(r *reader) int { r.mark("\x01\x02\x03\x04"); return 1 },
		"what is no nought":         func(r *reader) int { r.noughts(1); return 1 },
		"another length":            func(r *reader) int { r.unseal(4); return 1 },
		"fewer than a sum":          func(r *reader) int { r.unseal(2); return 1 },
		"one behind one that holds": func(r *reader) int { r.must(true); r.mark("\x01\x02\x03"); return int(r.number(1)) },
	} {
		if n, err := read([]byte{1, 2, 3}, form); n != 0 || err != api.ErrPageForm {
			t.Errorf("%s: %d and %v", name, n, err)
		}
	}
}

// A panic that is not the reader's own is a fault of the program, not of the bytes: it is not taken for one.
func TestReadLetsOtherPanicsPass(t *testing.T) {
	for _, other := range []any{"a text", 5, api.ErrPageForm, struct{}{}, &fault{}} {
		func() {
			defer func() {
				if given := recover(); given != other {
					t.Errorf("%v came of %v", given, other)
				}
			}()
			read(nil, func(*reader) int { panic(other) })
			t.Errorf("%v was taken for the reader's own", other)
		}()
	}
}
