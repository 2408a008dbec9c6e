package occ

import (
	"bytes"
	"slices"

	"codicil/api"
	"codicil/buffer"
	"codicil/commit"
	"codicil/reads"
)

// Txn is a transaction: a snapshot, what it has said itself, and what it has read. Of one that has ended only what it still tells is left.
type Txn struct {
	id    int
	seq   uint64
	now   int64
	ended bool

	db       *DB
	snapshot *commit.Snap
	said     *buffer.Buffer
	notes    [][]byte
	read     *reads.Set
}

// ID is how many had begun ahead of it.
func (t *Txn) ID() int { return t.id }

// Seq is the number of the last one that its snapshot has.
func (t *Txn) Seq() uint64 { return t.seq }

// Now is its time.
func (t *Txn) Now() int64 { return t.now }

// Get is a key's value, and whether it is there.
func (t *Txn) Get(key []byte) ([]byte, bool, api.Errno) {
	switch {
	case t.ended:
		return nil, false, api.ErrEnded
	case isNoKey(key):
		return nil, false, api.ErrKeyLong
	}
	if c, is := t.said.Get(key); is {
		return c.Value, !c.Delete, api.OK
	}
	value, is, err := t.snapshot.Get(key)
	if err != api.OK {
		return nil, false, err
	}
	t.read.Key(key)
	return value, is, api.OK
}

// Next is the first pair of a span; all up to it is read.
func (t *Txn) Next(from, to []byte, open bool) (api.Pair, bool, api.Errno) {
	first := func() (api.Pair, bool, api.Errno) {
		return buffer.Next(t.said, t.snapshot.Next, from, true)
	}
	passed := func(found []byte) api.Span { return api.Span{From: from, To: justAbove(found)} }
	return t.find(api.Span{From: from, To: to, Open: open}, first, passed)
}

// Prev is the last pair of a span; all from it on is read.
func (t *Txn) Prev(from, to []byte, open bool) (api.Pair, bool, api.Errno) {
	if open {
		to = nil
	}
	last := func() (api.Pair, bool, api.Errno) {
		return buffer.Prev(t.said, t.snapshot.Prev, to, open)
	}
	passed := func(found []byte) api.Span { return api.Span{From: found, To: to, Open: open} }
	return t.find(api.Span{From: from, To: to, Open: open}, last, passed)
}

// find is the pair that is met first on a way into a span, if it lies there. What was passed on the way, with it, is read; the whole span, if nothing was met.
func (t *Txn) find(x api.Span, meet func() (api.Pair, bool, api.Errno), passed func(found []byte) api.Span) (api.Pair, bool, api.Errno) {
	if t.ended {
		return api.Pair{}, false, api.ErrEnded
	}
	if !hasKeys(x) {
		return api.Pair{}, false, api.OK
	}
	pair, is, err := meet()
	if err != api.OK {
		return api.Pair{}, false, err
	}
	if !is || !lies(pair.Key, x) {
		t.read.Span(x)
		return api.Pair{}, false, api.OK
	}
	t.read.Span(passed(pair.Key))
	return pair, true, api.OK
}

// Put says which value a key shall have.
func (t *Txn) Put(key, value []byte) api.Errno {
	switch {
	case t.ended:
		return api.ErrEnded
	case isNoKey(key):
		return api.ErrKeyLong
	case key[0] == ofState || key[0] == ofFeed:
		return api.ErrArg
	case len(value) > api.MaxValue:
		return api.ErrDocLong
	case t.isFull(key):
		return api.ErrOccMany
	}
	t.said.Put(key, value)
	return api.OK
}

// Delete says that a key shall not be there. It may be one of the feed, which is made shorter so.
func (t *Txn) Delete(key []byte) api.Errno {
	switch {
	case t.ended:
		return api.ErrEnded
	case isNoKey(key):
		return api.ErrKeyLong
	case key[0] == ofState:
		return api.ErrArg
	case t.isFull(key):
		return api.ErrOccMany
	}
	t.said.Delete(key)
	return api.OK
}

// isFull says whether a key would be one too many.
func (t *Txn) isFull(key []byte) bool {
	_, is := t.said.Get(key)
	return !is && t.said.Len() >= api.MaxWrites
}

// Note adds to what the feed has of it.
func (t *Txn) Note(b []byte) api.Errno {
	switch {
	case t.ended:
		return api.ErrEnded
	case len(b) > api.MaxValue:
		return api.ErrDocLong
	case len(t.notes) >= api.MaxWrites:
		return api.ErrOccMany
	}
	t.notes = append(t.notes, bytes.Clone(b))
	return api.OK
}

// Try does what f does, or writes and notes nothing of it, if f answers an error. It is undone by a deferred function, so that nothing stays either of an f that does not come back.
func (t *Txn) Try(f func() api.Errno) api.Errno {
	switch {
	case t.ended:
		return api.ErrEnded
	case f == nil:
		return api.OK
	}
	mark, notes := t.said.Mark(), len(t.notes)
	stays := false
	defer func() {
		if !stays && !t.ended {
			t.said.Back(mark)
			t.notes = slices.Delete(t.notes, notes, len(t.notes))
		}
	}()
	err := f()
	stays = err == api.OK
	return err
}

// end lets it go, and all that is kept for it.
func (t *Txn) end() {
	t.snapshot.Drop()
	db := t.db
	*t = Txn{id: t.id, seq: t.seq, now: t.now, ended: true}
	delete(db.live, t.id)
	db.forget(t.seq)
}
