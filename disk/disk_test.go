package disk_test

import (
	"bytes"
	"slices"
	"testing"

	"codicil/api"
	"codicil/disk"
)

const (
	kindRead  = 1
	kindWrite = 2
	kindSync  = 3
)

// full are n bytes of one sort.
func full(n int, c byte) []byte { return bytes.Repeat([]byte{c}, n) }

func page(c byte) []byte   { return full(1024, c) }
func sector(c byte) []byte { return full(128, c) }

// pages is an image of pages that are full of one byte each.
func pages(bytes ...byte) []byte {
	var out []byte
	for _, c := range bytes {
		out = append(out, page(c)...)
	}
	return out
}

// sectors is an image of sectors that are full of one byte each.
func sectors(bytes ...byte) []byte {
	var out []byte
	for _, c := range bytes {
		out = append(out, sector(c)...)
	}
	return out
}

// mixed are n bytes of which no two sectors are alike.
func mixed(n int) []byte {
	out := make([]byte, n)
	state := uint32(n) + 1
	for at := range out {
		state = state*1664525 + 1013904223
		out[at] = byte(state >> 24)
	}
	return out
}

func from(low, high int) []int {
	var out []int
	for n := low; n <= high; n++ {
		out = append(out, n)
	}
	return out
}

func made(t *testing.T, size int) *disk.Disk {
	t.Helper()
	d, err := disk.New(size)
	if d == nil || err != api.OK {
		t.Fatalf("New(%d): %v", size, err)
	}
	return d
}

func loaded(t *testing.T, image []byte) *disk.Disk {
	t.Helper()
	d, err := disk.Load(image)
	if d == nil || err != api.OK {
		t.Fatalf("Load of %d bytes: %v", len(image), err)
	}
	return d
}

// answers looks whether a call told what it is to tell.
func answers(t *testing.T, what string, got, want api.Errno) {
	t.Helper()
	if got != want {
		t.Errorf("%s tells %v, not %v", what, got, want)
	}
}

func reads(t *testing.T, d *disk.Disk, number int, want []byte) {
	t.Helper()
	got, err := d.Read(number)
	if err != api.OK || !bytes.Equal(got, want) {
		t.Errorf("Read(%d) tells %v and other bytes, or none: first %v", number, err, got[:min(len(got), 1)])
	}
}

func refusesRead(t *testing.T, d *disk.Disk, number int, want api.Errno) {
	t.Helper()
	got, err := d.Read(number)
	if err != want || len(got) != 0 {
		t.Errorf("Read(%d) tells %d bytes and %v, not %v", number, len(got), err, want)
	}
}

func lasts(t *testing.T, d *disk.Disk, want []byte) {
	t.Helper()
	if got := d.Image(); !bytes.Equal(got, want) {
		t.Errorf("of the image (%d bytes, not %d) the first other byte stands at %d", len(got), len(want), differs(got, want))
	}
}

func differs(a, b []byte) int {
	for at := range min(len(a), len(b)) {
		if a[at] != b[at] {
			return at
		}
	}
	return min(len(a), len(b))
}

func waits(t *testing.T, d *disk.Disk, want ...int) {
	t.Helper()
	if got := d.Pending(); !slices.Equal(got, want) {
		t.Errorf("pending are %v, not %v", got, want)
	}
}

func counts(t *testing.T, d *disk.Disk, reads, writes, syncs int) {
	t.Helper()
	if got, want := d.Counts(), (api.Counts{Reads: reads, Writes: writes, Syncs: syncs}); got != want {
		t.Errorf("counted are %+v, not %+v", got, want)
	}
}

func isDark(t *testing.T, d *disk.Disk, want bool) {
	t.Helper()
	if d.Dark() != want {
		t.Errorf("dark is %v, not %v", d.Dark(), want)
	}
}

func TestErrorsHaveTheirNumbers(t *testing.T) {
	for err, number := range map[api.Errno]uint16{api.ErrArg: 1, api.ErrRange: 2, api.ErrDark: 4, api.ErrIO: 6, api.ErrDiskSize: 70} {
		if uint16(err) != number {
			t.Errorf("%v is not %d", err, number)
		}
	}
}

func TestExamples(t *testing.T) {
	d := made(t, 2)
	answers(t, "a write", d.Write(0, page('a')), api.OK)
	answers(t, "a write", d.Write(1, page('b')), api.OK)
	waits(t, d, from(0, 15)...)
	d.Cut(true)
	first := append(sector('a'), make([]byte, 1920)...)
	lasts(t, d, first)
	counts(t, d, 0, 2, 0)

	answers(t, "a fault", d.Fail(2, 1), api.OK)
	answers(t, "the first write", d.Write(0, page('c')), api.OK)
	answers(t, "the second write", d.Write(1, page('c')), api.ErrIO)
	answers(t, "the third write", d.Write(1, page('d')), api.OK)
	answers(t, "a sector's write", d.Write(0, sector('e')), api.OK)
	waits(t, d, append(from(0, 15), 0)...)

	answers(t, "a trip", d.Trip(0), api.OK)
	answers(t, "a sync", d.Sync(), api.ErrDark)
	refusesRead(t, d, 0, api.ErrDark)
	d.Cut()
	lasts(t, d, first)
	answers(t, "a write behind the last page", d.Write(2, page('a')), api.ErrRange)
	answers(t, "a write of three bytes", d.Write(0, full(3, 'a')), api.ErrArg)
	answers(t, "a fault of no kind", d.Fail(4, 0), api.ErrArg)
}

func TestNewOfAnySize(t *testing.T) {
	for _, size := range []int{0, -1, -16384, -1 << 31, -1 << 63, 16385, 16384 * 2, 1 << 31, 1 << 53, 1<<63 - 1} {
		if d, err := disk.New(size); d != nil || err != api.ErrDiskSize {
			t.Errorf("New(%d) tells %v, %v", size, d != nil, err)
		}
	}
	for _, size := range []int{1, 2, 3, 1000, 16383, 16384} {
		d := made(t, size)
		if d.Pages() != size {
			t.Errorf("New(%d) has %d pages", size, d.Pages())
		}
		lasts(t, d, make([]byte, size*1024))
		waits(t, d)
		counts(t, d, 0, 0, 0)
		isDark(t, d, false)
		reads(t, d, 0, page(0))
		reads(t, d, size-1, page(0))
		refusesRead(t, d, size, api.ErrRange)
	}
}

func TestLoadOfAnyLength(t *testing.T) {
	for _, length := range []int{0, 1, 127, 128, 896, 1023, 1025, 1152, 2047, 2049, 16384*1024 - 1, 16384*1024 - 128, 16384*1024 + 1, 16385 * 1024} {
		if d, err := disk.Load(make([]byte, length)); d != nil || err != api.ErrDiskSize {
			t.Errorf("Load of %d bytes tells %v, %v", length, d != nil, err)
		}
	}
	if d, err := disk.Load(nil); d != nil || err != api.ErrDiskSize {
		t.Errorf("Load of nil tells %v, %v", d != nil, err)
	}
	for _, length := range []int{1024, 2048, 5 * 1024, 16383 * 1024, 16384 * 1024} {
		image := mixed(length)
		d := loaded(t, image)
		if d.Pages() != length/1024 {
			t.Errorf("Load of %d bytes has %d pages", length, d.Pages())
		}
		lasts(t, d, image)
		waits(t, d)
		counts(t, d, 0, 0, 0)
		isDark(t, d, false)
		reads(t, d, 0, image[:1024])
		reads(t, d, d.Pages()-1, image[length-1024:])
		refusesRead(t, d, d.Pages(), api.ErrRange)
	}
}

func TestImageIsLoadedAgain(t *testing.T) {
	d := loaded(t, mixed(3*1024))
	d.Write(1, page('x'))
	d.Sync()
	d.Write(2, page('y'))
	again := loaded(t, d.Image())
	lasts(t, again, d.Image())
	reads(t, again, 1, page('x'))
	reads(t, again, 2, mixed(3 * 1024)[2048:])
	waits(t, again)
	counts(t, again, 2, 0, 0)
}

func TestWhatIsToldChangesNothing(t *testing.T) {
	d := made(t, 2)
	d.Write(1, page('a'))
	d.Trip(2)
	d.Fail(kindSync, 1)
	for range 5 {
		d.Pages()
		d.Dark()
		d.Pending()
		d.Image()
		d.Counts()
	}
	waits(t, d, from(8, 15)...)
	counts(t, d, 0, 1, 0)
	answers(t, "the first sync", d.Sync(), api.OK)
	answers(t, "the second sync", d.Sync(), api.ErrIO)
	answers(t, "the third sync", d.Sync(), api.ErrDark)
}
