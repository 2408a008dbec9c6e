package occ_test

import (
	"strings"
	"testing"

	"codicil/api"
	"codicil/occ"
)

// TestTry: what its function does stays, or is undone, with what it has noted; what was ahead of it stays.
func TestTry(t *testing.T) {
	for _, err := range []api.Errno{api.OK, api.ErrArg, api.ErrEnded, api.ErrOccConflict, 9999, 65535} {
		for name, l := range views() {
			w := base(t)
			w.text = []string{name}
			s := w.begin(0).do(put("a", "ahead"), del("f"), note("ahead"))
			s.do(try(err, append(l, put("a", "within"), note("within"), put("f", "within"), del("b"))...))
			s.sees()
			s.do(put("behind", "1"), note("behind"))
			s.ends(api.OK)
			w.flush(api.OK)
			w.lasts()
			w.serial()
		}
	}
}

// TestTryWithinTry: one that errs undoes its own, those within it too; those ahead of it and behind it stay.
func TestTryWithinTry(t *testing.T) {
	for outer := range 3 {
		for middle := range 3 {
			for inner := range 3 {
				w := base(t)
				s := w.begin(0).do(put("a", "0"), note("0"))
				s.do(try(api.Errno(outer),
					put("a", "1"), note("1"), del("b"), get("b"),
					try(api.Errno(middle),
						del("a"), note("2"), put("b", "2"), put("c", "2"), get("d"),
						try(api.Errno(inner), put("a", "3"), note("3"), del("c"), del("d"), get("a")),
						get("a"), get("c"), get("d"), put("e", "2"), note("2 behind")),
					get("a"), get("b"), get("e"), put("g", "1"), note("1 behind"),
					try(api.Errno(inner), put("h", "4"), note("4"), del("g")),
					get("g")))
				s.sees()
				s.ends(api.OK)
				w.flush(api.OK)
				w.lasts()
				w.serial()
			}
		}
	}
}

// TestTryAllInVain: what is undone as a whole leaves nothing to commit, so that what was read is no conflict.
func TestTryAllInVain(t *testing.T) {
	w := base(t)
	s := w.begin(0).do(get("b"))
	s.do(try(api.ErrIO, put("a", "1"), note("n"), try(api.OK, del("b"))))
	w.commits(put("b", "2"))
	s.ends(api.OK)
	if w.db.Waiting() != 1 {
		t.Errorf("%d wait", w.db.Waiting())
	}
	s = w.begin(0).do(try(api.ErrIO, note("n"), get("b")), note("m"))
	s.ends(api.ErrOccConflict)
}

// TestWhatWasReadInATryStays: also if all else is undone.
func TestWhatWasReadInATryStays(t *testing.T) {
	for _, read := range []step{get("b"), get("c"), next("a", "c"), next("c", "d"), prev("a", "c"), prevOpen("a", "")} {
		w := base(t)
		s := w.begin(0).do(try(api.ErrArg, put("A", "1"), try(api.ErrArg, read)), put("own", "1"))
		w.commits(put("b", "2"), put("c", "2"), del("f"))
		s.ends(api.ErrOccConflict)
	}
}

// TestAFunctionThatEnds the transaction: nothing is undone then, whatever it answers.
func TestAFunctionThatEnds(t *testing.T) {
	for _, err := range []api.Errno{api.OK, api.ErrArg} {
		for _, end := range []step{finish(), abort()} {
			for _, depth := range []int{1, 2, 3} {
				w := base(t)
				s := w.begin(0).do(get("b"), put("a", "1"), note("1"))
				x := try(err, put("b", "2"), note("2"), end, put("b", "3"), get("b"), end)
				for range depth - 1 {
					x = try(err, put("c", "2"), x, put("c", "3"), try(api.OK, put("d", "4")))
				}
				s.do(x, finish())
				w.flush(api.OK)
				w.lasts()
				w.begin(0).sees()
				w.serial()
			}
		}
	}
}

// TestAFunctionThatIsRefused by a conflict has ended by then: nothing of it is left.
func TestAFunctionThatIsRefused(t *testing.T) {
	for _, err := range []api.Errno{api.OK, api.ErrOccConflict} {
		w := base(t)
		s := w.begin(0).do(get("b"), put("c", "1"))
		w.commits(put("b", "2"))
		s.do(try(err, put("a", "1"), note("1"), finish(), get("a")), put("a", "1"), finish())
		if w.db.Waiting() != 1 {
			t.Errorf("%d wait", w.db.Waiting())
		}
		w.flush(api.OK)
		w.lasts()
	}
}

// TestAFunctionThatIsTooMany stays live, so that it is undone, or goes on.
func TestAFunctionThatIsTooMany(t *testing.T) {
	for _, err := range []api.Errno{api.OK, api.ErrOccMany} {
		w := base(t)
		for range 64 {
			w.commits(put("many", "1"))
		}
		s := w.begin(0).do(put("a", "1"), note("1"))
		s.do(try(err, put("b", "3"), note("3"), finish(), get("b")))
		s.ends(api.ErrOccMany)
		w.flush(api.OK)
		s.do(get("b"), note("behind"))
		s.ends(api.OK)
		w.flush(api.OK)
		w.lasts()
	}
}

// TestTryOfOthers: a function may use other transactions, and flush; only what its own one has written is undone.
func TestTryOfOthers(t *testing.T) {
	db := created(t, newDisk(t, 100))
	x, other := db.Begin(0), db.Begin(0)
	x.Put([]byte("a"), []byte("1"))
	err := x.Try(func() api.Errno {
		x.Put([]byte("a"), []byte("2"))
		other.Put([]byte("b"), []byte("2"))
		answers(t, "try of another one", other.Try(func() api.Errno {
			other.Put([]byte("b"), []byte("3"))
			return x.Put([]byte("c"), []byte("3"))
		}), api.OK)
		answers(t, "commit of another one", other.Commit(), api.OK)
		if l, err := db.Flush(); err != api.OK || len(l) != 1 {
			t.Errorf("flush: %v, %v", l, err)
		}
		return api.ErrFull
	})
	answers(t, "try", err, api.ErrFull)
	for key, want := range map[string]string{"a": "1", "b": "", "c": ""} {
		if value, is, err := x.Get([]byte(key)); string(value) != want || is != (want != "") || err != api.OK {
			t.Errorf("get %s: %q, %v, %v", key, value, is, err)
		}
	}
	y := db.Begin(0)
	if value, is, err := y.Get([]byte("b")); string(value) != "3" || !is || err != api.OK {
		t.Errorf("get b: %q, %v, %v", value, is, err)
	}
}

// TestAFunctionThatDoesNotComeBack: what it has written is undone all the same.
func TestAFunctionThatDoesNotComeBack(t *testing.T) {
	db := created(t, newDisk(t, 100))
	x := db.Begin(0)
	x.Put([]byte("a"), []byte("1"))
	func() {
		defer func() {
			if got := recover(); got != "out" {
				t.Errorf("%v comes out", got)
			}
		}()
		x.Try(func() api.Errno {
			x.Put([]byte("a"), []byte("2"))
			x.Note([]byte("n"))
			panic("out")
		})
	}()
	if value, is, err := x.Get([]byte("a")); string(value) != "1" || !is || err != api.OK {
		t.Errorf("get a: %q, %v, %v", value, is, err)
	}
	answers(t, "try", x.Try(func() api.Errno { return x.Put([]byte("b"), nil) }), api.OK)
	answers(t, "commit", x.Commit(), api.OK)
	if l, err := db.Flush(); err != api.OK || len(l) != 1 {
		t.Errorf("flush: %v, %v", l, err)
	}
	if _, is, _ := db.Begin(0).Get([]byte(noteAt(1, 0))); is {
		t.Error("the note is there")
	}
}

// TestNoFunction is one that does nothing.
func TestNoFunction(t *testing.T) {
	db := created(t, newDisk(t, 100))
	x := db.Begin(0)
	x.Put([]byte("a"), []byte("1"))
	answers(t, "try", x.Try(nil), api.OK)
	if value, is, err := x.Get([]byte("a")); string(value) != "1" || !is || err != api.OK {
		t.Errorf("get a: %q, %v, %v", value, is, err)
	}
}

// TestTriesByTheThousand: deep within one another, and one behind the other.
func TestTriesByTheThousand(t *testing.T) {
	db := created(t, newDisk(t, 100))
	x := db.Begin(0)
	for n := range 3000 {
		answers(t, "try", x.Try(func() api.Errno {
			x.Put([]byte(strings.Repeat("k", 1+n%150)), []byte("1"))
			x.Note([]byte("n"))
			return api.ErrArg
		}), api.ErrArg)
	}
	answers(t, "deep", deeper(x, 3000), api.ErrIO)
	answers(t, "commit", x.Commit(), api.OK)
	if db.Waiting() != 0 {
		t.Errorf("%d wait", db.Waiting())
	}
}

func deeper(x *occ.Txn, depth int) api.Errno {
	return x.Try(func() api.Errno {
		x.Put([]byte{7, byte(depth)}, []byte("1"))
		if depth == 0 {
			return api.ErrIO
		}
		return deeper(x, depth-1)
	})
}
