package occ_test

import (
	"fmt"
	"maps"
	"math/rand"
	"slices"
	"strings"
	"testing"

	"codicil/api"
	"codicil/commit"
	"codicil/disk"
	"codicil/occ"
)

// stored is a disk whose store has some pairs, laid down without the layer.
func stored(t testing.TB, pages int, pairs map[string]string) *disk.Disk {
	t.Helper()
	d := newDisk(t, pages)
	store, err := commit.Create(d)
	if err != api.OK {
		t.Fatal(err)
	}
	var l []api.Change
	for key, value := range pairs {
		l = append(l, api.Change{Key: []byte(key), Value: []byte(value)})
	}
	if err := store.Apply(l); err != api.OK {
		t.Fatal(err)
	}
	return d
}

// refuses looks whether Open answers an error, and nothing beside it.
func refuses(t testing.TB, what string, d *disk.Disk, want api.Errno) {
	t.Helper()
	if db, err := occ.Open(d); db != nil || err != want {
		t.Errorf("%s: Open: %v, not %v", what, err, want)
	}
}

// TestCreate: a database without keys, whatever the disk had.
func TestCreate(t *testing.T) {
	d := newDisk(t, 60)
	for range 3 {
		w := tableOf(t, d, created(t, d))
		if s := w.db.Space(); s.Keys != 0 || s.Current != 1 || s.Pages != 60 || s.Snaps != 0 || w.db.Seq() != 0 || w.db.Waiting() != 0 || w.db.Live() != 0 {
			t.Errorf("%+v", s)
		}
		w.begin(3).do(nextOpen("", ""), prevOpen("", ""), get(seqKey), get("a"))
		w.commits(put("a", strings.Repeat("v", 5000)), note("n"))
		w.flush(api.OK)
		w.lasts()
		w.commits(put("waits", "1"))
	}
}

// TestErrorsOfCreate are the store's.
func TestErrorsOfCreate(t *testing.T) {
	for pages := 1; pages < 10; pages++ {
		d := newDisk(t, pages)
		_, want := commit.Create(newDisk(t, pages))
		if db, err := occ.Create(d); err != want || (db == nil) != (err != api.OK) || (pages < 4) != (err == api.ErrFull) {
			t.Errorf("%d pages: %v, not %v", pages, err, want)
		}
	}
	whole := newDisk(t, 40)
	created(t, whole)
	costs := whole.Counts()
	for kind, most := range map[int]int{readKind: costs.Reads, writeKind: costs.Writes, syncKind: costs.Syncs} {
		for n := range most {
			d := newDisk(t, 40)
			d.Fail(kind, n)
			if db, err := occ.Create(d); db != nil || err != api.ErrIO {
				t.Errorf("fault %d of kind %d: %v", n, kind, err)
			}
			created(t, d)
		}
	}
	for n := range costs.Reads + costs.Writes + costs.Syncs {
		d := newDisk(t, 40)
		d.Trip(n)
		for range 2 {
			if db, err := occ.Create(d); db != nil || err != api.ErrDark {
				t.Errorf("trip %d: %v", n, err)
			}
		}
		d.Cut()
		created(t, d)
	}
}

// TestOpenOfNoDatabase: of a disk that never had one.
func TestOpenOfNoDatabase(t *testing.T) {
	for pages := 1; pages < 6; pages++ {
		refuses(t, fmt.Sprintf("%d pages", pages), newDisk(t, pages), api.ErrCommitNone)
	}
}

// TestTheStatesKey: it has eight bytes, the highest first, or is not there; all else is refused, and changes nothing.
func TestTheStatesKey(t *testing.T) {
	rest := map[string]string{"a": "1", "\x00": "12345678", "\x00se": "12345678", "\x00seq\x00": "12345678", "\x00seQ": "1"}
	for _, size := range []int{0, 1, 2, 7, 9, 10, 15, 16, 63, 64, 65, 800, 8192} {
		all := maps.Clone(rest)
		all[seqKey] = strings.Repeat("\x00", size)
		d := stored(t, 100, all)
		before := d.Counts()
		for range 2 {
			refuses(t, fmt.Sprintf("%d bytes", size), d, api.ErrOccForm)
		}
		if after := d.Counts(); after.Writes != before.Writes || after.Syncs != before.Syncs {
			t.Errorf("%d bytes: Open has written", size)
		}
	}
	for text, want := range map[string]uint64{
		"\x00\x00\x00\x00\x00\x00\x00\x00": 0, "\x00\x00\x00\x00\x00\x00\x00\x01": 1, "\x00\x00\x00\x00\x00\x00\x01\x00": 256,
		"\x01\x02\x03\x04\x05\x06\x07\x08": 0x0102030405060708, "\x80\x00\x00\x00\x00\x00\x00\x00": 1 << 63, "\xff\xff\xff\xff\xff\xff\xff\xfe": 1<<64 - 2,
	} {
		all := maps.Clone(rest)
		all[seqKey] = text
		w := tableOf(t, stored(t, 100, all), opened(t, stored(t, 100, all)))
		if got := w.db.Seq(); got != want {
			t.Errorf("%q: %d", text, got)
		}
		s := w.begin(0)
		s.sees()
		if s.real.Seq() != want {
			t.Errorf("%q: Seq of a transaction: %d", text, s.real.Seq())
		}
	}
	d := stored(t, 100, rest)
	w := tableOf(t, d, opened(t, d))
	if got := w.db.Seq(); got != 0 {
		t.Errorf("without the key: %d", got)
	}
	w.begin(0).sees()
	w.commits(note("n"))
	w.flush(api.OK)
	w.lasts()
}

// TestOpenAnew: what was flushed is there, what waited and what was live is not; and the numbers go on.
func TestOpenAnew(t *testing.T) {
	d := newDisk(t, 200)
	created(t, d)
	pairs := map[string]string{}
	for round := range 6 {
		db := opened(t, d)
		if db.Seq() != uint64(round*2) || db.Waiting() != 0 || db.Live() != 0 || db.Space().Snaps != 0 {
			t.Errorf("Seq %d, %d wait, %d live, %+v", db.Seq(), db.Waiting(), db.Live(), db.Space())
		}
		w := tableOf(t, d, db)
		if !maps.Equal(w.plain.now, pairs) {
			t.Errorf("round %d: %d keys, not %d", round, len(w.plain.now), len(pairs))
		}
		w.begin(0).sees()
		w.commits(put(fmt.Sprint("key ", round), "1"), note("first"), note("second"))
		w.commits(del(fmt.Sprint("key ", round-1)), put("same", strings.Repeat("v", round*700)))
		w.flush(api.OK)
		pairs = w.plain.now
		w.commits(put("waits", "1"), note("waits"))
		w.begin(0).do(put("live", "1"), note("live"))
	}
}

// TestFaultsOfOpen: at each read, those of the state's key too. It can be opened behind it, and no snapshot stays.
func TestFaultsOfOpen(t *testing.T) {
	for name, image := range map[string][]byte{"few pages": newScene(t).image, "many pages": manyPages(t)} {
		d := loaded(t, image)
		want := opened(t, d).Seq()
		most := d.Counts().Reads
		step := max(1, most/60)
		var all []int
		for n := 0; n < most-40; n += step {
			all = append(all, n)
		}
		for n := max(0, most-40); n < most; n++ {
			all = append(all, n)
		}
		for _, n := range all {
			d.Fail(readKind, n)
			refuses(t, fmt.Sprintf("%s, fault %d of %d", name, n, most), d, api.ErrIO)
			d.Trip(n)
			for range 2 {
				refuses(t, fmt.Sprintf("%s, trip %d of %d", name, n, most), d, api.ErrDark)
			}
			d.Cut()
		}
		db := opened(t, d)
		if db.Seq() != want || db.Space().Snaps != 0 || d.Counts().Writes != 0 || d.Counts().Syncs != 0 {
			t.Errorf("%s: Seq %d, not %d; %+v, %+v", name, db.Seq(), want, db.Space(), d.Counts())
		}
		d = loaded(t, image)
		d.Fail(readKind, most)
		d.Fail(writeKind, 0)
		d.Fail(syncKind, 0)
		opened(t, d)
	}
}

// spoilt is a file's bytes, a few of which were changed; whole sectors and pages come from elsewhere, too.
func spoilt(r *rand.Rand, image, elder []byte) []byte {
	out := slices.Clone(image)
	for range 1 + r.Intn(3) {
		at, from := r.Intn(len(out)/api.Sector), r.Intn(len(out)/api.Sector)
		switch here := out[at*api.Sector:][:api.Sector]; r.Intn(6) {
		case 0:
			out[r.Intn(len(out))] ^= 1 << r.Intn(8)
		case 1:
			clear(here)
		case 2:
			copy(here, out[from*api.Sector:])
		case 3:
			copy(here, elder[at*api.Sector:])
		case 4:
			copy(out[at/8*api.PageSize:][:api.PageSize], elder[at/8*api.PageSize:])
		default:
			out = out[:max(1, r.Intn(len(out)/api.PageSize+1))*api.PageSize]
			elder = elder[:len(out)]
		}
	}
	return out
}

// TestOpenOfAnyBytes: the store's error; else it goes by the state's key; what is opened goes on.
func TestOpenOfAnyBytes(t *testing.T) {
	c := newScene(t)
	w := c.waits(t)
	w.flush(api.OK)
	newer := w.disk.Image()
	seen := map[api.Errno]int{}
	r := rand.New(rand.NewSource(18))
	for n := range 1500 {
		image := spoilt(r, newer, c.image)
		if n%10 == 0 {
			image = make([]byte, (1+r.Intn(9))*api.PageSize)
			r.Read(image)
		}
		seen[opensRight(t, image)]++
	}
	if seen[api.OK] < 150 || seen[api.ErrCommitCorrupt] < 100 || seen[api.ErrCommitNone] < 5 {
		t.Errorf("%v", seen)
	}
}

// opensRight holds Open against the store's, and tells what that answered.
func opensRight(t *testing.T, image []byte) api.Errno {
	t.Helper()
	_, want := commit.Open(loaded(t, image))
	d := loaded(t, image)
	if want != api.OK {
		refuses(t, "spoilt", d, want)
		return want
	}
	pairs := lasting(t, d)
	if text, is := pairs[seqKey]; is && len(text) != 8 {
		refuses(t, "spoilt", d, api.ErrOccForm)
		return want
	}
	has(t, opened(t, d), pairs)
	w := tableOf(t, d, opened(t, d))
	w.commits(note("n"), put("own", "1"))
	w.flush(api.OK)
	has(t, opened(t, d), w.plain.now)
	return want
}
