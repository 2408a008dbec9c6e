package occ_test

import (
	"encoding/binary"
	"maps"
	"slices"

	"codicil/api"
)

// seqKey is the state's key.
const seqKey = "\x00seq"

// noteAt is the feed's key of a note.
func noteAt(number uint64, at int) string {
	out := binary.BigEndian.AppendUint64([]byte{4}, number)
	return string(binary.BigEndian.AppendUint16(out, uint16(at)))
}

func bigEndian(number uint64) string { return string(binary.BigEndian.AppendUint64(nil, number)) }

// said is what one Put or Delete says of a key.
type said struct {
	key, value string
	gone       bool
}

// lastOf is what a row says of each key.
func lastOf(row []said) map[string]said {
	out := map[string]said{}
	for _, x := range row {
		out[x.key] = x
	}
	return out
}

// lay changes pairs as a row says, one behind the other.
func lay(pairs map[string]string, row []said) map[string]string {
	out := maps.Clone(pairs)
	for _, x := range row {
		if x.gone {
			delete(out, x.key)
		} else {
			out[x.key] = x.value
		}
	}
	return out
}

// record is a transaction that has committed.
type record struct {
	id     int
	number uint64
	row    []said // the notes and the state with it
}

// plainDB is a database by the chapter's words: the row of all that was committed.
type plainDB struct {
	begun, live int
	applied     int // how many flushes went well
	first       map[string]string
	firstSeq    uint64
	row         []record // those in the store
	now         map[string]string
	waiting     []record
}

func newPlain(first map[string]string, seq uint64) *plainDB {
	return &plainDB{first: first, firstSeq: seq, now: first}
}

func (db *plainDB) seq() uint64 { return db.firstSeq + uint64(len(db.row)) }

func (db *plainDB) begin(now int64) *plainTxn {
	t := &plainTxn{db: db, id: db.begun, seq: db.seq(), now: now, snapshot: db.now}
	db.begun++
	db.live++
	return t
}

// flush is one that went as is told.
func (db *plainDB) flush(err api.Errno) []api.Done {
	var out []api.Done
	for _, r := range db.waiting {
		done := api.Done{ID: r.id, Err: err}
		if err == api.OK {
			db.row = append(db.row, r)
			db.now = lay(db.now, r.row)
			done.Seq = r.number
		}
		out = append(out, done)
	}
	if len(db.waiting) > 0 && err == api.OK {
		db.applied++
	}
	db.waiting = nil
	return out
}

// stretch is keys that were read: from one on, up to another one.
type stretch struct {
	from, to string
	open     bool
}

func (x stretch) has(key string) bool { return key >= x.from && (x.open || key < x.to) }

// plainTxn is a transaction by the chapter's words.
type plainTxn struct {
	db       *plainDB
	id       int
	seq      uint64
	now      int64
	snapshot map[string]string
	row      []said
	notes    []string
	read     []stretch
	ended    bool
}

func (t *plainTxn) ID() int { return t.id }

func (t *plainTxn) Seq() uint64 { return t.seq }

func (t *plainTxn) Now() int64 { return t.now }

func (t *plainTxn) Get(key []byte) ([]byte, bool, api.Errno) {
	if t.ended {
		return nil, false, api.ErrEnded
	}
	if len(key) < 1 || len(key) > 160 {
		return nil, false, api.ErrKeyLong
	}
	if x, is := lastOf(t.row)[string(key)]; is {
		return []byte(x.value), !x.gone, api.OK
	}
	t.read = append(t.read, stretch{from: string(key), to: string(key) + "\x00"})
	value, is := t.snapshot[string(key)]
	return []byte(value), is, api.OK
}

// within are the keys that it sees in a stretch, rising, and what it sees of all.
func (t *plainTxn) within(x stretch) ([]string, map[string]string) {
	seen := lay(t.snapshot, t.row)
	var out []string
	for _, key := range slices.Sorted(maps.Keys(seen)) {
		if x.has(key) {
			out = append(out, key)
		}
	}
	return out, seen
}

func (t *plainTxn) Next(from, to []byte, open bool) (api.Pair, bool, api.Errno) {
	if t.ended {
		return api.Pair{}, false, api.ErrEnded
	}
	x := stretch{string(from), string(to), open}
	keys, seen := t.within(x)
	if len(keys) == 0 {
		t.read = append(t.read, x)
		return api.Pair{}, false, api.OK
	}
	t.read = append(t.read, stretch{from: x.from, to: keys[0] + "\x00"})
	return api.Pair{Key: []byte(keys[0]), Value: []byte(seen[keys[0]])}, true, api.OK
}

func (t *plainTxn) Prev(from, to []byte, open bool) (api.Pair, bool, api.Errno) {
	if t.ended {
		return api.Pair{}, false, api.ErrEnded
	}
	x := stretch{string(from), string(to), open}
	keys, seen := t.within(x)
	if len(keys) == 0 {
		t.read = append(t.read, x)
		return api.Pair{}, false, api.OK
	}
	last := keys[len(keys)-1]
	t.read = append(t.read, stretch{last, x.to, open})
	return api.Pair{Key: []byte(last), Value: []byte(seen[last])}, true, api.OK
}

// isTooMany says whether it has written so many keys that this one may not come to them.
func (t *plainTxn) isTooMany(key string) bool {
	all := lastOf(t.row)
	_, is := all[key]
	return !is && len(all) >= 1000
}

func (t *plainTxn) Put(key, value []byte) api.Errno {
	if t.ended {
		return api.ErrEnded
	}
	if len(key) < 1 || len(key) > 160 {
		return api.ErrKeyLong
	}
	if key[0] == 0 || key[0] == 4 {
		return api.ErrArg
	}
	if len(value) > 8192 {
		return api.ErrDocLong
	}
	if t.isTooMany(string(key)) {
		return api.ErrOccMany
	}
	t.row = append(t.row, said{key: string(key), value: string(value)})
	return api.OK
}

func (t *plainTxn) Delete(key []byte) api.Errno {
	if t.ended {
		return api.ErrEnded
	}
	if len(key) < 1 || len(key) > 160 {
		return api.ErrKeyLong
	}
	if key[0] == 0 {
		return api.ErrArg
	}
	if t.isTooMany(string(key)) {
		return api.ErrOccMany
	}
	t.row = append(t.row, said{key: string(key), gone: true})
	return api.OK
}

func (t *plainTxn) Note(b []byte) api.Errno {
	if t.ended {
		return api.ErrEnded
	}
	if len(b) > 8192 {
		return api.ErrDocLong
	}
	if len(t.notes) >= 1000 {
		return api.ErrOccMany
	}
	t.notes = append(t.notes, string(b))
	return api.OK
}

func (t *plainTxn) Try(f func() api.Errno) api.Errno {
	if t.ended {
		return api.ErrEnded
	}
	row, notes := len(t.row), len(t.notes)
	err := f()
	if err != api.OK && !t.ended {
		t.row, t.notes = t.row[:row], t.notes[:notes]
	}
	return err
}

func (t *plainTxn) end() {
	t.ended = true
	t.db.live--
}

func (t *plainTxn) Commit() api.Errno {
	if t.ended {
		return api.ErrEnded
	}
	if len(t.row) == 0 && len(t.notes) == 0 {
		t.end()
		return api.OK
	}
	if len(t.db.waiting) == 64 {
		return api.ErrOccMany
	}
	t.end()
	if t.conflicts() {
		return api.ErrOccConflict
	}
	t.db.waiting = append(t.db.waiting, t.record())
	return api.OK
}

func (t *plainTxn) Abort() api.Errno {
	if t.ended {
		return api.ErrEnded
	}
	t.end()
	return api.OK
}

func (t *plainTxn) record() record {
	number := t.db.seq() + uint64(len(t.db.waiting)) + 1
	row := slices.Clone(t.row)
	for at, text := range t.notes {
		row = append(row, said{key: noteAt(number, at), value: text})
	}
	return record{t.id, number, append(row, said{key: seqKey, value: bigEndian(number)})}
}

func (t *plainTxn) conflicts() bool {
	for _, r := range slices.Concat(t.db.row, t.db.waiting) {
		if r.number <= t.seq {
			continue
		}
		for _, x := range r.row {
			if slices.ContainsFunc(t.read, func(y stretch) bool { return y.has(x.key) }) {
				return true
			}
		}
	}
	return false
}
