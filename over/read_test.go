package over_test

import (
	"bytes"
	"math/rand"
	"slices"
	"testing"

	"codicil/api"
	"codicil/disk"
	"codicil/over"
	"codicil/page"
	"codicil/pool"
)

// sheet is a page that is laid on a disk.
type sheet struct {
	number  uint32
	kind    uint8
	payload []byte
}

// sheets is a right chain: a value on these pages.
func sheets(value []byte, at []uint32) []sheet {
	var out []sheet
	for i, b := range payloads(value, at) {
		out = append(out, sheet{at[i], page.Over, b})
	}
	return out
}

// loaded is a disk of noughts, but for these pages; nothing of it was counted.
func loaded(t *testing.T, pages int, sheets ...sheet) *disk.Disk {
	t.Helper()
	image := make([]byte, 1024*pages)
	for _, s := range sheets {
		b, err := page.Seal(s.kind, s.number, s.payload)
		if err != api.OK {
			t.Fatal(err)
		}
		copy(image[1024*s.number:], b)
	}
	d, err := disk.Load(image)
	if err != api.OK {
		t.Fatal(err)
	}
	return d
}

func made(t *testing.T, d *disk.Disk, most int) *pool.Pool {
	t.Helper()
	p, err := pool.New(d, most)
	if err != api.OK {
		t.Fatal(err)
	}
	return p
}

func reads(t *testing.T, p *pool.Pool, value []byte, at []uint32) {
	t.Helper()
	got, pages, err := over.Read(p, at[0], uint32(len(value)))
	if err != api.OK || !bytes.Equal(got, value) || !slices.Equal(pages, at) {
		t.Errorf("Read(%d, %d): %d bytes (the right ones: %v) of %d and %v, not %d", at[0], len(value), len(got), bytes.Equal(got, value), pages, err, at)
	}
}

func refusesRead(t *testing.T, p *pool.Pool, first, size uint32, want api.Errno) {
	t.Helper()
	if got, pages, err := over.Read(p, first, size); err != want || len(got) != 0 || len(pages) != 0 {
		t.Errorf("Read(%d, %d): %d bytes of %d and %v, not %v", first, size, len(got), pages, err, want)
	}
}

// costs looks how many reads something does, and that it does nothing else.
func costs(t *testing.T, what string, d *disk.Disk, reads int, do func()) {
	t.Helper()
	before := d.Counts()
	do()
	after := d.Counts()
	if want := (api.Counts{Reads: before.Reads + reads, Writes: before.Writes, Syncs: before.Syncs}); after != want {
		t.Errorf("%s: counted are %+v, not %+v", what, after, want)
	}
}

// hasJust looks whether just these of the disk's pages are at hand.
func hasJust(t *testing.T, p *pool.Pool, want ...uint32) {
	t.Helper()
	var got []uint32
	for number := range uint32(p.Pages()) {
		if p.Has(number) {
			got = append(got, number)
		}
	}
	want = slices.Compact(slices.Sorted(slices.Values(want)))
	if !slices.Equal(got, want) || p.Len() != len(want) {
		t.Errorf("at hand are %v (%d), not %v", got, p.Len(), want)
	}
}

// orders are all orders of so many pages from 2 on.
func orders(count int) [][]uint32 {
	if count == 0 {
		return [][]uint32{nil}
	}
	var out [][]uint32
	for _, o := range orders(count - 1) {
		for place := range count {
			out = append(out, slices.Insert(slices.Clone(o), place, uint32(count+1)))
		}
	}
	return out
}

// writesAndReads lets Encode's payloads go to their pages through a pool, and the value come back, from there and from the disk.
func writesAndReads(t *testing.T, d *disk.Disk, most int, value []byte, at []uint32) {
	t.Helper()
	p := made(t, d, most)
	l, err := over.Encode(value, at)
	if err != api.OK {
		t.Fatal(err)
	}
	for i, b := range l {
		if err := p.Write(at[i], page.Over, b); err != api.OK {
			t.Fatal(err)
		}
	}
	reads(t, p, value, at)
	reads(t, p, value, at)
	reads(t, made(t, d, most), value, at)
}

func TestReadOfWhatEncodeGives(t *testing.T) {
	d := loaded(t, 16384)
	for _, size := range edges {
		value, need := mixed(size, 11), plainNeed(size)
		falling := from(40, need)
		slices.Reverse(falling)
		for _, most := range []int{1, 2, need, need + 1, 100} {
			writesAndReads(t, d, most, value, from(2, need))
			writesAndReads(t, d, most, value, falling)
			writesAndReads(t, d, most, value, from(uint32(16384-need), need))
		}
	}
}

func TestReadOfPagesInEachOrder(t *testing.T) {
	for _, size := range []int{65, 1005, 2100, 4016, 4017} {
		value := mixed(size, 12)
		for _, at := range orders(plainNeed(size)) {
			for _, most := range []int{1, 2, 3, 9} {
				d := loaded(t, 7, sheets(value, at)...)
				reads(t, made(t, d, most), value, at)
			}
		}
	}
}

func TestReadOfAnyPages(t *testing.T) {
	r := rand.New(rand.NewSource(13))
	d := loaded(t, 200)
	for range 300 {
		size := 65 + r.Intn(8128)
		var at []uint32
		for _, n := range r.Perm(198)[:plainNeed(size)] {
			at = append(at, uint32(n)+2)
		}
		writesAndReads(t, d, 1+r.Intn(12), mixed(size, r.Uint32()), at)
	}
}

// TestReadOfNoughts: bytes of the value that look like no next page, or like one, are bytes of the value.
func TestReadOfNoughts(t *testing.T) {
	for _, fill := range []byte{0, 1, 2, 3, 0xff} {
		for _, size := range edges {
			value := bytes.Repeat([]byte{fill}, size)
			d := loaded(t, 20, sheets(value, from(5, plainNeed(size)))...)
			reads(t, made(t, d, 3), value, from(5, plainNeed(size)))
		}
	}
}

// TestReadOfAValueBesideOthers: chains that lie between one another's pages.
func TestReadOfAValueBesideOthers(t *testing.T) {
	one, two := mixed(3000, 14), mixed(3100, 15)
	atOne, atTwo := []uint32{2, 6, 4}, []uint32{5, 3, 7, 8}
	d := loaded(t, 9, append(sheets(one, atOne), sheets(two, atTwo)...)...)
	for _, most := range []int{1, 3, 9} {
		p := made(t, d, most)
		for range 3 {
			reads(t, p, one, atOne)
			reads(t, p, two, atTwo)
		}
	}
}

// TestReadTellsWhatWasWrittenLast: through the pool, or beside it where the pool has none of it at hand.
func TestReadTellsWhatWasWrittenLast(t *testing.T) {
	at := []uint32{3, 2}
	d := loaded(t, 5, sheets(mixed(1500, 16), at)...)
	p := made(t, d, 4)
	reads(t, p, mixed(1500, 16), at)
	for i, b := range payloads(mixed(1600, 17), at) {
		p.Write(at[i], page.Over, b)
	}
	reads(t, p, mixed(1600, 17), at)
	refusesRead(t, p, 3, 1500, api.ErrOverForm)
}

// TestReadFromAPageInTheMiddle: what stands from there on is a value too, if it is asked for with its size.
func TestReadFromAPageInTheMiddle(t *testing.T) {
	value, at := mixed(2500, 18), []uint32{4, 2, 3}
	d := loaded(t, 5, sheets(value, at)...)
	p := made(t, d, 2)
	reads(t, p, value[1004:], at[1:])
	reads(t, p, value[2008:], at[2:])
	refusesRead(t, p, 2, 2500, api.ErrOverForm)
	refusesRead(t, p, 3, 1496, api.ErrOverForm)
}

// TestReadOfSizesThatTakeNoPage: that comes first, whatever first is and whatever the disk would do; nothing is read.
func TestReadOfSizesThatTakeNoPage(t *testing.T) {
	sizes := []uint32{0, 1, 4, 63, 64, 8193, 8194, 9036, 1 << 16, 1<<16 + 70, 1 << 24, 1<<31 - 1, 1 << 31, 1<<31 + 70, greatest - 1, greatest}
	for _, size := range sizes {
		d := loaded(t, 12, sheets(mixed(8192, 19), from(2, 9))...)
		p := made(t, d, 3)
		refused := func() {
			for _, first := range []uint32{0, 1, 2, 10, 11, 12, 16384, greatest} {
				refusesRead(t, p, first, size, api.ErrOverForm)
			}
		}
		costs(t, "no page", d, 0, refused)
		hasJust(t, p)
		d.Fail(1, 0)
		d.Trip(0)
		refused()
		if d.Dark() {
			t.Error("a read that is refused has used up the trip")
		}
		d.Sync()
		costs(t, "no page, in the dark", d, 0, refused)
	}
}
