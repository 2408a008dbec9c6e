package occ

import (
	"slices"

	"codicil/api"
)

// waiter is a transaction that has committed and is not flushed.
type waiter struct {
	id      int
	number  uint64 // that it has, if the flush goes well
	changes []api.Change
}

// newWaiter is a transaction that waits for a number, with its notes, which stand under that.
func newWaiter(t *Txn, number uint64) waiter {
	changes := t.said.Changes()
	for at, note := range t.notes {
		changes = append(changes, api.Change{Key: noteKey(number, at), Value: note})
	}
	return waiter{t.id, number, changes}
}

// keys are all that it writes.
func (w waiter) keys() [][]byte {
	out := [][]byte{[]byte(stateKey)}
	for _, c := range w.changes {
		out = append(out, c.Key)
	}
	return out
}

// Commit looks whether it may be, and has it wait; one that changes nothing just ends.
func (t *Txn) Commit() api.Errno {
	switch {
	case t.ended:
		return api.ErrEnded
	case t.said.Len() == 0 && len(t.notes) == 0:
		t.end()
		return api.OK
	case len(t.db.waiting) >= api.MaxWaiting:
		return api.ErrOccMany
	case t.db.changedSince(t):
		t.end()
		return api.ErrOccConflict
	}
	number := t.db.seq + uint64(len(t.db.waiting)) + 1
	t.db.waiting = append(t.db.waiting, newWaiter(t, number))
	t.end()
	return api.OK
}

// Abort ends it.
func (t *Txn) Abort() api.Errno {
	if t.ended {
		return api.ErrEnded
	}
	t.end()
	return api.OK
}

// changedSince says whether another one has written what a transaction has read, and the snapshot does not have that.
func (db *DB) changedSince(t *Txn) bool {
	for key, number := range db.written {
		if number > t.seq && t.read.Has([]byte(key)) {
			return true
		}
	}
	return slices.ContainsFunc(db.waiting, func(w waiter) bool { return t.read.Meets(w.keys()) })
}

// Flush writes all that waits, at once. Whether that goes well or not, none waits then.
func (db *DB) Flush() ([]api.Done, api.Errno) {
	if len(db.waiting) == 0 {
		return nil, api.OK
	}
	batch := db.waiting
	db.waiting = nil
	err := db.store.Apply(changesOf(batch))
	out := make([]api.Done, 0, len(batch))
	for _, w := range batch {
		done := api.Done{ID: w.id, Err: err}
		if err == api.OK {
			done.Seq = w.number
			db.take(w)
		}
		out = append(out, done)
	}
	return out, err
}

func changesOf(batch []waiter) []api.Change {
	var out []api.Change
	for _, w := range batch {
		out = append(out, w.changes...)
	}
	last := batch[len(batch)-1].number
	return append(out, api.Change{Key: []byte(stateKey), Value: stateOf(last)})
}

// take notes that a transaction is in the store.
func (db *DB) take(w waiter) {
	db.seq = w.number
	if len(db.live) == 0 {
		return
	}
	for _, key := range w.keys() {
		db.written[string(key)] = w.number
	}
}

// forget lets go of what no live one has to be held against any more, behind the end of one whose snapshot had this number.
func (db *DB) forget(seq uint64) {
	oldest := db.seq
	for _, t := range db.live {
		if t.seq <= seq {
			return
		}
		oldest = min(oldest, t.seq)
	}
	needed := map[string]uint64{}
	for key, number := range db.written {
		if number > oldest {
			needed[key] = number
		}
	}
	db.written = needed
}
