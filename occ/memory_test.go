package occ_test

import (
	"bytes"
	"fmt"
	"runtime"
	"slices"
	"strings"
	"testing"

	"codicil/api"
	"codicil/occ"
)

// withRoom is a text's bytes, with room behind them that is filled.
func withRoom(text string, room int, fill byte) []byte {
	out := append([]byte(text), bytes.Repeat([]byte{fill}, room)...)
	return out[:len(text):len(out)]
}

// spoil overwrites bytes, and what lies behind them.
func spoil(l ...[]byte) {
	for _, b := range l {
		b = b[:cap(b)]
		for at := range b {
			b[at] ^= 0x5a
		}
	}
}

// handed are bytes that are handed in: what they were, with their room.
type handed struct{ now, was []byte }

func hand(text string, fill byte) handed {
	b := withRoom(text, 170, fill)
	return handed{b, slices.Clone(b[:cap(b)])}
}

// spoils looks whether they stayed, and overwrites them then.
func (h handed) spoils(t testing.TB, what string) {
	t.Helper()
	if !bytes.Equal(h.now[:cap(h.now)], h.was) {
		t.Errorf("%s: what was handed in has changed", what)
	}
	spoil(h.now)
}

// handing does a step's call with bytes that have room behind them, which are overwritten as soon as it comes back.
func handing(t testing.TB, fill byte, name string, texts []string, ask func(x txn, b [][]byte) string) step {
	return step{name, func(x txn) string {
		var all []handed
		var b [][]byte
		for _, text := range texts {
			h := hand(text, fill)
			all = append(all, h)
			b = append(b, h.now)
		}
		out := ask(x, b)
		for _, h := range all {
			h.spoils(t, name)
		}
		return out
	}}
}

// handedIn are steps of each call, with such bytes.
func handedIn(t testing.TB, fill byte) []step {
	get := func(key string) step {
		return handing(t, fill, "get "+short(key), []string{key}, func(x txn, b [][]byte) string {
			value, is, err := x.Get(b[0])
			return fmt.Sprintf("%q %v %v", value, is, err)
		})
	}
	span := func(from, to string, open bool) step {
		return handing(t, fill, "next and prev "+short(from)+" "+short(to), []string{from, to}, func(x txn, b [][]byte) string {
			return toldPair(x.Next(b[0], b[1], open)) + toldPair(x.Prev(b[0], b[1], open))
		})
	}
	put := func(key, value string) step {
		return handing(t, fill, "put "+short(key), []string{key, value}, func(x txn, b [][]byte) string { return x.Put(b[0], b[1]).Error() })
	}
	del := func(key string) step {
		return handing(t, fill, "delete "+short(key), []string{key}, func(x txn, b [][]byte) string { return x.Delete(b[0]).Error() })
	}
	note := func(text string) step {
		return handing(t, fill, "note "+short(text), []string{text}, func(x txn, b [][]byte) string { return x.Note(b[0]).Error() })
	}
	return []step{
		put("a", "own"), put("b", ""), del("d"), note("first"), note(""), get("a"), get("b"), get("c"), get("d"), get("f"),
		span("a", "d", false), span("c", "e", false), span("g", "", true), span("b\x00", "c", true), span("e", "a", false),
		put("a", strings.Repeat("v", 4000)), put("great", strings.Repeat("g", 8192)), del("f"), note(strings.Repeat("n", 8192)), get("great"),
		put("", "1"), put(string(long(161)), "1"), put("\x00", "1"), get(string(long(200))), del(string(long(300))), note(strings.Repeat("n", 8193)),
		put(string(long(160)), "1"), get(string(long(160))), span(string(long(160)), string(long(300)), false),
	}
}

// TestWhatIsHandedInStays: it is neither changed nor kept, and what lies behind it is not looked at: a transaction that goes on with it, its flush, and what it is refused by.
func TestWhatIsHandedInStays(t *testing.T) {
	for _, fill := range []byte{0, 'k', 0xff} {
		w := base(t)
		s := w.begin(0).do(handedIn(t, fill)...)
		s.sees()
		s.ends(api.OK)
		w.begin(0).do(get("b"))
		w.flush(api.OK)
		w.lasts()
		w.serial()
		for _, key := range []string{"a", "b", "b\x00", "c", "d", "dd", "e", "f", "g", "z", string(long(160)), "great", "B", noteAt(3, 0)} {
			w := base(t)
			s := w.begin(0).do(handedIn(t, fill)...)
			w.commits(put("x", "1"), del(key))
			s.do(finish())
			w.flush(api.OK)
			w.lasts()
		}
	}
}

// outs are all bytes that calls of a transaction give.
func outs(t testing.TB, x *occ.Txn) [][]byte {
	t.Helper()
	var out [][]byte
	for _, key := range []string{"a", "b", "d", "f", "great", seqKey} {
		value, is, err := x.Get([]byte(key))
		if !is || err != api.OK {
			t.Fatalf("get %s: %v, %v", key, is, err)
		}
		out = append(out, value)
	}
	for from := ""; ; {
		up, is, err := x.Next([]byte(from), nil, true)
		down, isDown, errDown := x.Prev([]byte(from), nil, true)
		if err != api.OK || errDown != api.OK || is != isDown {
			t.Fatalf("next and prev from %q: %v, %v", from, err, errDown)
		}
		if !is {
			return out
		}
		from = string(up.Key) + "\x00"
		out = append(out, up.Key, up.Value, down.Key, down.Value)
	}
}

// TestWhatComesOutIsItsOwners: changed afterwards, with what lies behind it, it changes nothing of what is told next, to this transaction or to others, nor of what is flushed.
func TestWhatComesOutIsItsOwners(t *testing.T) {
	d := newDisk(t, 200)
	db := created(t, d)
	first := db.Begin(0)
	for key, value := range map[string]string{"b": "1", "d": "2", "f": strings.Repeat("f", 3000)} {
		first.Put([]byte(key), []byte(value))
	}
	first.Commit()
	db.Flush()
	x, other := db.Begin(0), db.Begin(0)
	for key, value := range map[string]string{"a": "own", "great": strings.Repeat("g", 8192), "d": "own"} {
		x.Put([]byte(key), []byte(value))
		other.Put([]byte(key), []byte(value))
	}
	x.Note([]byte("note"))
	want := copies(outs(t, x))
	for range 3 {
		l := outs(t, x)
		if !same(l, want) {
			t.Fatal("a transaction is told something else than ahead")
		}
		apart(t, l)
		spoil(l...)
		more := outs(t, other)
		if !same(more, want) {
			t.Fatal("another one is told something else")
		}
		apart(t, append(l, more...))
		spoil(more...)
	}
	answers(t, "commit", x.Commit(), api.OK)
	if l, err := db.Flush(); err != api.OK || len(l) != 1 {
		t.Errorf("flush: %v, %v", l, err)
	}
	has(t, db, lasting(t, d))
	all := lasting(t, d)
	for key, want := range map[string]string{"a": "own", "b": "1", "d": "own", "f": strings.Repeat("f", 3000), "great": strings.Repeat("g", 8192), noteAt(2, 0): "note", seqKey: bigEndian(2)} {
		if all[key] != want {
			t.Errorf("%q: %s", key, short(all[key]))
		}
	}
	if !same(outs(t, other), want) {
		t.Error("a snapshot is another one behind a flush")
	}
}

func copies(l [][]byte) [][]byte {
	var out [][]byte
	for _, b := range l {
		out = append(out, bytes.Clone(b))
	}
	return out
}

func same(a, b [][]byte) bool { return slices.EqualFunc(a, b, bytes.Equal) }

// apart looks whether some bytes share no memory, with what lies behind them: each is filled with a number of its own.
func apart(t testing.TB, l [][]byte) {
	t.Helper()
	kept := copies(l)
	fill := func(b []byte, at int) {
		b = b[:cap(b)]
		for n := range b {
			b[n] = byte(at * 131 >> (n % 2 * 8))
		}
	}
	for at, b := range l {
		fill(b, at)
	}
	for at, b := range l {
		want := make([]byte, cap(b))
		fill(want, at)
		if !bytes.Equal(b[:cap(b)], want) {
			t.Errorf("list %d of %d shares its memory", at, len(l))
		}
	}
	for at, b := range l {
		copy(b, kept[at])
	}
}

// TestDoneIsItsOwners: the list of a flush, changed afterwards, changes nothing of the next one's.
func TestDoneIsItsOwners(t *testing.T) {
	w := newTable(t, 100)
	var all [][]api.Done
	for n := range 6 {
		for range n % 3 * 2 {
			w.commits(put("a", "1"))
		}
		want := api.OK
		if n == 4 {
			w.disk.Fail(syncKind, 0)
			want = api.ErrIO
		}
		l := w.flush(want)
		whole := l[:cap(l)]
		for at := range whole {
			whole[at] = api.Done{ID: -n, Seq: 99, Err: 99}
		}
		all = append(all, l)
	}
	for n, l := range all {
		for _, x := range l {
			if x != (api.Done{ID: -n, Seq: 99, Err: 99}) {
				t.Errorf("list %d was changed by a later flush: %v", n, x)
			}
		}
	}
	w.lasts()
}

// TestDatabasesKnowNothingOfEachOther: two of disks of their own, between whose calls others go on.
func TestDatabasesKnowNothingOfEachOther(t *testing.T) {
	a, b := newTable(t, 100), newTable(t, 100)
	for n := range 5 {
		x, y := a.begin(int64(n)), b.begin(int64(-n))
		x.do(get("a"), put("a", fmt.Sprint(n)), note("x"))
		y.do(get("a"), try(api.ErrArg, put("a", "1")), put("b", fmt.Sprint(n)))
		a.commits(put("c", "1"))
		y.ends(api.OK)
		x.ends(api.OK)
		a.flush(api.OK)
		b.numbers()
		if n%2 == 0 {
			b.flush(api.OK)
			a.numbers()
		}
		a.lasts()
		b.lasts()
	}
	a.serial()
}

// heap is how many bytes are kept.
func heap() uint64 {
	runtime.GC()
	runtime.GC()
	var m runtime.MemStats
	runtime.ReadMemStats(&m)
	return m.HeapAlloc
}

// waitsWithMany has a transaction put a thousand keys.
func waitsWithMany(t testing.TB, db *occ.DB, from int) {
	t.Helper()
	x := db.Begin(0)
	for n := range 1000 {
		x.Put(fmt.Appendf(nil, "key %06d", from+n), nil)
	}
	answers(t, "commit", x.Commit(), api.OK)
}

func flushes(t testing.TB, db *occ.DB) {
	t.Helper()
	if _, err := db.Flush(); err != api.OK {
		t.Fatal(err)
	}
}

func writesMany(t testing.TB, db *occ.DB, from int) {
	t.Helper()
	waitsWithMany(t, db, from)
	flushes(t, db)
}

// TestNoMoreIsKeptThanNeeded: of what was flushed, once nobody is live who began ahead of it, nothing; while one is, its keys once; of those that have ended, nothing.
func TestNoMoreIsKeptThanNeeded(t *testing.T) {
	db := created(t, newDisk(t, 3000))
	for n := range 30 {
		writesMany(t, db, n*1000)
	}
	before := heap()
	kept := func(what string, most int) {
		t.Helper()
		if now := heap(); now > before+uint64(most) {
			t.Errorf("%s: %d bytes more are kept", what, now-before)
		}
	}
	for n := range 30 {
		waitsWithMany(t, db, n*1000)
	}
	flushes(t, db)
	kept("nobody was live", 1<<20)
	old := db.Begin(0)
	for range 60 {
		writesMany(t, db, 0)
	}
	kept("an old one is live", 1<<20)
	for n := range 60 {
		next := db.Begin(0)
		writesMany(t, db, n%30*1000)
		old.Abort()
		old = next
	}
	kept("one behind the other is live", 1<<20)
	for n := range 30 {
		writesMany(t, db, n*1000)
	}
	young := db.Begin(0)
	old.Abort()
	kept("a young one is live", 1<<20)
	var ended []*occ.Txn
	for range 300 {
		ended = append(ended, endsWithMany(db))
	}
	kept("many have ended", 1<<20)
	young.Abort()
	kept("none is live", 1<<20)
	runtime.KeepAlive(ended)
	runtime.KeepAlive(db)
}

// endsWithMany is a transaction that has read and written much, and has ended.
func endsWithMany(db *occ.DB) *occ.Txn {
	x := db.Begin(0)
	for n := range 20 {
		x.Get(fmt.Appendf(nil, "key %06d", n))
		x.Put(fmt.Appendf(nil, "own %d", n), make([]byte, 8192))
		x.Note(make([]byte, 8192))
	}
	x.Abort()
	return x
}
