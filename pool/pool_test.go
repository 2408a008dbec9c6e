package pool_test

import (
	"bytes"
	"math"
	"slices"
	"testing"

	"codicil/api"
	"codicil/disk"
	"codicil/page"
	"codicil/pool"
)

const (
	kindRead  = 1
	kindWrite = 2
	kindSync  = 3

	greatest = math.MaxUint32
)

// beyond are numbers of pages that a disk of so many has not, also such as would be right if a part of them were lost.
func beyond(pages int) []uint32 {
	n := uint32(pages)
	return []uint32{n, n + 1, n + 16384, 1<<16 + n - 1, 1 << 16, 1 << 24, 1<<31 - 1, 1 << 31, 1<<31 + n - 1, greatest - 1, greatest}
}

// mixed are n bytes that look like nothing, the same ones for the same seed.
func mixed(n int, seed uint32) []byte {
	out := make([]byte, n)
	state := seed*2654435761 + 12345
	for at := range out {
		state = state*1664525 + 1013904223
		out[at] = byte(state >> 24)
	}
	return out
}

func blank(t *testing.T, pages int) *disk.Disk {
	t.Helper()
	d, err := disk.New(pages)
	if err != api.OK {
		t.Fatal(err)
	}
	return d
}

func made(t *testing.T, d *disk.Disk, most int) *pool.Pool {
	t.Helper()
	p, err := pool.New(d, most)
	if p == nil || err != api.OK {
		t.Fatalf("New(d, %d) tells %v, %v", most, p != nil, err)
	}
	return p
}

func sealed(t *testing.T, kind uint8, number uint32, payload []byte) []byte {
	t.Helper()
	b, err := page.Seal(kind, number, payload)
	if err != api.OK {
		t.Fatal(err)
	}
	return b
}

// text is what a page of lettered says.
func text(number uint32) string { return "page " + string(rune('a'+number)) }

// lettered is a disk whose pages have, for good, the kinds 1 to 4 in turn and a text each; nothing of it was counted.
func lettered(t *testing.T, pages int) *disk.Disk {
	t.Helper()
	var image []byte
	for number := range uint32(pages) {
		image = append(image, sealed(t, uint8(number%4)+1, number, []byte(text(number)))...)
	}
	d, err := disk.Load(image)
	if err != api.OK {
		t.Fatal(err)
	}
	return d
}

// answers looks whether a call told what it is to tell.
func answers(t *testing.T, what string, got, want api.Errno) {
	t.Helper()
	if got != want {
		t.Errorf("%s tells %v, not %v", what, got, want)
	}
}

func reads(t *testing.T, p *pool.Pool, number uint32, kind uint8, payload []byte) {
	t.Helper()
	gotKind, got, err := p.Read(number)
	if err != api.OK || gotKind != kind || !bytes.Equal(got, payload) {
		t.Errorf("Read(%d) tells %d, %q and %v, not %d, %q", number, gotKind, got, err, kind, payload)
	}
}

// readsLetter is reads of what lettered has.
func readsLetter(t *testing.T, p *pool.Pool, numbers ...uint32) {
	t.Helper()
	for _, number := range numbers {
		reads(t, p, number, uint8(number%4)+1, []byte(text(number)))
	}
}

func refusesRead(t *testing.T, p *pool.Pool, number uint32, want api.Errno) {
	t.Helper()
	if kind, got, err := p.Read(number); err != want || kind != 0 || len(got) != 0 {
		t.Errorf("Read(%d) tells %d, %q and %v, not %v", number, kind, got, err, want)
	}
}

func writes(t *testing.T, p *pool.Pool, number uint32, kind uint8, payload []byte) {
	t.Helper()
	if err := p.Write(number, kind, payload); err != api.OK {
		t.Errorf("Write(%d, %d, %d bytes) tells %v", number, kind, len(payload), err)
	}
}

func refusesWrite(t *testing.T, p *pool.Pool, number uint32, kind uint8, payload []byte, want api.Errno) {
	t.Helper()
	if err := p.Write(number, kind, payload); err != want {
		t.Errorf("Write(%d, %d, %d bytes) tells %v, not %v", number, kind, len(payload), err, want)
	}
}

// hasJust looks whether just these of the disk's pages are at hand, and none that the disk has not.
func hasJust(t *testing.T, p *pool.Pool, want ...uint32) {
	t.Helper()
	var got []uint32
	for number := range uint32(p.Pages()) {
		if p.Has(number) {
			got = append(got, number)
		}
	}
	want = slices.Sorted(slices.Values(want))
	if !slices.Equal(got, want) || p.Len() != len(want) {
		t.Errorf("at hand are %v (%d), not %v", got, p.Len(), want)
	}
	for _, number := range beyond(p.Pages()) {
		if p.Has(number) {
			t.Errorf("at hand is %d, which the disk has not", number)
		}
	}
}

func counts(t *testing.T, d *disk.Disk, reads, writes, syncs int) {
	t.Helper()
	if got, want := d.Counts(), (api.Counts{Reads: reads, Writes: writes, Syncs: syncs}); got != want {
		t.Errorf("counted are %+v, not %+v", got, want)
	}
}

// costs looks how many operations of each kind something does.
func costs(t *testing.T, what string, d *disk.Disk, reads, writes, syncs int, do func()) {
	t.Helper()
	before := d.Counts()
	do()
	after := d.Counts()
	got := api.Counts{Reads: after.Reads - before.Reads, Writes: after.Writes - before.Writes, Syncs: after.Syncs - before.Syncs}
	if want := (api.Counts{Reads: reads, Writes: writes, Syncs: syncs}); got != want {
		t.Errorf("%s does %+v, not %+v", what, got, want)
	}
}

func TestErrorsHaveTheirNumbers(t *testing.T) {
	for err, number := range map[api.Errno]uint16{api.ErrArg: 1, api.ErrRange: 2, api.ErrDark: 4, api.ErrIO: 6, api.ErrPageForm: 80, api.ErrPoolForm: 100} {
		if uint16(err) != number {
			t.Errorf("%v is not %d", err, number)
		}
	}
}

func TestFirstExample(t *testing.T) {
	d := blank(t, 9)
	p := made(t, d, 2)
	writes(t, p, 2, 1, []byte("a"))
	writes(t, p, 3, 1, []byte("b"))
	costs(t, "Read(2)", d, 0, 0, 0, func() { reads(t, p, 2, 1, []byte("a")) })
	writes(t, p, 4, 1, []byte("c"))
	if p.Has(3) {
		t.Error("3 has not gone")
	}
	hasJust(t, p, 2, 4)
	costs(t, "Read(3)", d, 1, 0, 0, func() { reads(t, p, 3, 1, []byte("b")) })
	hasJust(t, p, 3, 4)
}

func TestSecondExample(t *testing.T) {
	d := blank(t, 9)
	refusesRead(t, made(t, d, 2), 5, api.ErrPoolForm)
	if p, err := pool.New(d, 0); p != nil || err != api.ErrArg {
		t.Errorf("New(d, 0) tells %v, %v", p != nil, err)
	}
}

func TestNewOfTooFew(t *testing.T) {
	d := lettered(t, 2)
	for _, most := range []int{0, -1, -2, -16384, math.MinInt32, math.MinInt} {
		if p, err := pool.New(d, most); p != nil || err != api.ErrArg {
			t.Errorf("New(d, %d) tells %v, %v", most, p != nil, err)
		}
	}
	counts(t, d, 0, 0, 0)
}

func TestNewOfAnySize(t *testing.T) {
	for _, most := range []int{1, 2, 3, 5, 6, 7, 16384, 16385, math.MaxInt32, math.MaxInt} {
		d := lettered(t, 6)
		p := made(t, d, most)
		hasJust(t, p)
		if p.Pages() != 6 {
			t.Errorf("a pool has %d pages", p.Pages())
		}
		counts(t, d, 0, 0, 0)
		for number := range uint32(6) {
			readsLetter(t, p, number)
			if want := min(int(number)+1, most); p.Len() != want {
				t.Errorf("with at most %d, behind %d reads %d are at hand, not %d", most, number+1, p.Len(), want)
			}
		}
	}
}

func TestNewInTheDark(t *testing.T) {
	d := lettered(t, 3)
	d.Trip(0)
	d.Sync()
	p := made(t, d, 2)
	if _, err := pool.New(d, 0); err != api.ErrArg {
		t.Error("New(d, 0) in the dark tells", err)
	}
	if p.Pages() != 3 {
		t.Errorf("a pool in the dark has %d pages", p.Pages())
	}
	hasJust(t, p)
	counts(t, d, 0, 0, 0)
}

func TestPagesAreTheDisks(t *testing.T) {
	for _, pages := range []int{1, 2, 9, 16383, 16384} {
		d := blank(t, pages)
		for _, most := range []int{1, 2, pages, pages + 1} {
			if got := made(t, d, most).Pages(); got != pages {
				t.Errorf("a pool of a disk of %d pages has %d", pages, got)
			}
		}
		counts(t, d, 0, 0, 0)
	}
}

func TestTheLastPageOfTheGreatestDisk(t *testing.T) {
	d := blank(t, 16384)
	p := made(t, d, 1)
	writes(t, p, 16383, page.Free, []byte("end"))
	p.Forget(16383)
	reads(t, p, 16383, page.Free, []byte("end"))
	for _, number := range beyond(16384) {
		refusesRead(t, p, number, api.ErrRange)
		refusesWrite(t, p, number, page.Free, nil, api.ErrRange)
	}
	counts(t, d, 1, 1, 0)
}
