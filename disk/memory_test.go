package disk_test

import (
	"bytes"
	"slices"
	"testing"

	"codicil/api"
	"codicil/disk"
)

// withRoom is b with other bytes in the room behind it.
func withRoom(b []byte, room int) []byte {
	out := append(bytes.Clone(b), full(room, '!')...)
	return out[:len(b):len(out)]
}

// spoil writes into all memory that a list has, also into the room behind it.
func spoil(b []byte) {
	for at := range b[:cap(b)] {
		b[:cap(b)][at] ^= 0x5a
	}
}

func spoilNumbers(l []int) {
	for at := range l[:cap(l)] {
		l[:cap(l)][at] = -99
	}
}

func TestLoadNeitherChangesNorKeepsItsImage(t *testing.T) {
	want := mixed(3 * 1024)
	image := withRoom(want, 1024)
	all := bytes.Clone(image[:cap(image)])
	d := loaded(t, image)
	if d.Pages() != 3 {
		t.Errorf("room behind the image was read: %d pages", d.Pages())
	}
	d.Write(0, page('a'))
	d.Write(2, page('b'))
	d.Sync()
	d.Write(1, page('c'))
	d.Cut(true)
	if !bytes.Equal(image[:cap(image)], all) {
		t.Error("the image that was handed in has changed")
	}

	d = loaded(t, image)
	spoil(image)
	lasts(t, d, want)
	reads(t, d, 1, want[1024:2048])
}

func TestWriteNeitherChangesNorKeepsItsBytes(t *testing.T) {
	for _, length := range []int{128, 1024} {
		for _, room := range []int{0, 1, 896, 1024} {
			image := mixed(2 * 1024)
			want := bytes.Clone(image)
			given := withRoom(bytes.Repeat([]byte("0123456789abcdef"), length/16), room)
			copy(want[1024:], given)
			all := bytes.Clone(given[:cap(given)])
			d := loaded(t, image)
			answers(t, "a write", d.Write(1, given), api.OK)
			waits(t, d, from(8, 7+length/128)...)
			if !bytes.Equal(given[:cap(given)], all) {
				t.Error("what was handed in has changed")
			}
			spoil(given)
			reads(t, d, 1, want[1024:])
			d.Sync()
			lasts(t, d, want)
			spoil(given)
			lasts(t, d, want)
		}
	}
}

func TestWriteDoesNotTakeRoomForBytes(t *testing.T) {
	d := made(t, 1)
	for _, c := range []struct{ length, room int }{{0, 128}, {0, 1024}, {127, 1}, {1023, 1}, {129, 895}} {
		answers(t, "a write of a wrong length", d.Write(0, withRoom(full(c.length, 'a'), c.room)), api.ErrArg)
	}
	waits(t, d)
}

func TestCutNeitherChangesNorKeepsWhatIsKept(t *testing.T) {
	d := made(t, 1)
	d.Write(0, page('a'))
	all := []bool{true, false, true, true, true, true, true, true}
	keep := all[:2]
	d.Cut(keep...)
	lasts(t, d, sectors('a', 0, 0, 0, 0, 0, 0, 0))
	if !slices.Equal(all, []bool{true, false, true, true, true, true, true, true}) {
		t.Error("what was handed in has changed")
	}
	for at := range all {
		all[at] = true
	}
	lasts(t, d, sectors('a', 0, 0, 0, 0, 0, 0, 0))
	d.Write(0, page('b'))
	d.Cut(all[:0]...)
	lasts(t, d, sectors('a', 0, 0, 0, 0, 0, 0, 0))
}

func TestWhatReadTellsIsNewMemory(t *testing.T) {
	image := mixed(2 * 1024)
	d := loaded(t, image)
	d.Write(1, sector('a'))
	want := append(sector('a'), image[1024+128:]...)
	for number, page := range [][]byte{image[:1024], want} {
		one, _ := d.Read(number)
		two, _ := d.Read(number)
		spoil(one)
		if !bytes.Equal(two, page) {
			t.Error("two reads share memory")
		}
		spoil(two)
		reads(t, d, number, page)
	}
	lasts(t, d, image)
	d.Sync()
	lasts(t, d, append(bytes.Clone(image[:1024]), want...))
}

func TestWhatReadToldStaysAsItWas(t *testing.T) {
	d := loaded(t, pages('p'))
	lasting, _ := d.Read(0)
	d.Write(0, page('a'))
	cached, _ := d.Read(0)
	d.Sync()
	d.Write(0, page('b'))
	d.Cut(true, true, true)
	if !bytes.Equal(lasting, page('p')) || !bytes.Equal(cached, page('a')) {
		t.Error("what was told has changed")
	}
}

func TestWhatImageTellsIsNewMemory(t *testing.T) {
	want := mixed(2 * 1024)
	d := loaded(t, want)
	one, two := d.Image(), d.Image()
	spoil(one)
	if !bytes.Equal(two, want) {
		t.Error("two images share memory")
	}
	lasts(t, d, want)
	reads(t, d, 0, want[:1024])
	d.Write(0, page('a'))
	d.Sync()
	if !bytes.Equal(two, want) {
		t.Error("an image that was told has changed")
	}
}

func TestWhatPendingTellsIsNewMemory(t *testing.T) {
	d := made(t, 3)
	d.Write(2, page('a'))
	d.Write(0, sector('b'))
	want := append(from(16, 23), 0)
	one, two := d.Pending(), d.Pending()
	spoilNumbers(one)
	if !slices.Equal(two, want) {
		t.Error("two answers of Pending share memory")
	}
	waits(t, d, want...)
	d.Write(1, sector('c'))
	if !slices.Equal(two, want) {
		t.Error("what Pending told has changed")
	}
	spoilNumbers(two)
	waits(t, d, append(want, 8)...)
	d.Sync()
	lasts(t, d, append(append(sector('b'), make([]byte, 896)...), sectors('c', 0, 0, 0, 0, 0, 0, 0, 'a', 'a', 'a', 'a', 'a', 'a', 'a', 'a')...))
}

func TestDisksKnowNothingOfOneAnother(t *testing.T) {
	image := pages('p', 'q')
	a, b := loaded(t, image), loaded(t, image)
	c := made(t, 2)
	a.Write(0, page('a'))
	a.Sync()
	a.Write(1, page('b'))
	a.Fail(kindSync, 0)
	a.Trip(1)
	a.Read(0)
	a.Read(0)
	isDark(t, a, true)
	for _, d := range []*disk.Disk{b, c} {
		isDark(t, d, false)
		waits(t, d)
		counts(t, d, 0, 0, 0)
		answers(t, "a sync of another disk", d.Sync(), api.OK)
	}
	lasts(t, b, pages('p', 'q'))
	lasts(t, c, make([]byte, 2048))
	b.Write(1, page('z'))
	waits(t, a, from(8, 15)...)
	b.Cut()
	isDark(t, a, true)
	lasts(t, a, pages('a', 'q'))
}
