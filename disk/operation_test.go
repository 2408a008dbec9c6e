package disk_test

import (
	"testing"

	"codicil/api"
)

// away are numbers of pages that a disk of three has not.
func away() []int { return []int{-1, -2, -1 << 63, 3, 4, 16384, 1 << 31, 1 << 60, 1 << 61, 1<<63 - 1} }

func TestReadOfAnyPage(t *testing.T) {
	image := mixed(3 * 1024)
	d := loaded(t, image)
	for at, number := range away() {
		refusesRead(t, d, number, api.ErrRange)
		counts(t, d, at+1, 0, 0)
	}
	done := len(away())
	for number := range 3 {
		reads(t, d, number, image[number*1024:number*1024+1024])
		done++
		counts(t, d, done, 0, 0)
	}
	lasts(t, d, image)
	waits(t, d)
}

func TestWriteOfAnyPage(t *testing.T) {
	image := mixed(3 * 1024)
	d := loaded(t, image)
	for at, number := range away() {
		answers(t, "a write of no page", d.Write(number, page('a')), api.ErrRange)
		counts(t, d, 0, at+1, 0)
	}
	waits(t, d)
	d.Cut(true, true, true, true, true, true, true, true)
	lasts(t, d, image)
	for number := range 3 {
		d := loaded(t, image)
		answers(t, "a write", d.Write(number, page('a')), api.OK)
		waits(t, d, from(number*8, number*8+7)...)
		lasts(t, d, image)
		want := mixed(3 * 1024)
		copy(want[number*1024:], page('a'))
		for other := range 3 {
			reads(t, d, other, want[other*1024:other*1024+1024])
		}
		answers(t, "a sync", d.Sync(), api.OK)
		lasts(t, d, want)
		counts(t, d, 3, 1, 1)
	}
}

func TestWriteOfAnyLength(t *testing.T) {
	image := mixed(2 * 1024)
	for _, length := range []int{0, 1, 3, 127, 129, 256, 512, 896, 1023, 1025, 1152, 2048, 1 << 20} {
		d := loaded(t, image)
		answers(t, "a write of a wrong length", d.Write(1, make([]byte, length)), api.ErrArg)
		waits(t, d)
		counts(t, d, 0, 1, 0)
		reads(t, d, 1, image[1024:])
		d.Sync()
		lasts(t, d, image)
	}
	d := loaded(t, image)
	answers(t, "a write of nil", d.Write(1, nil), api.ErrArg)
	waits(t, d)
}

func TestWriteOfASectorIsThePagesFirst(t *testing.T) {
	image := mixed(2 * 1024)
	d := loaded(t, image)
	given := mixed(128)
	answers(t, "a sector's write", d.Write(1, given), api.OK)
	waits(t, d, 8)
	want := append(append([]byte(nil), given...), image[1024+128:]...)
	reads(t, d, 1, want)
	reads(t, d, 0, image[:1024])
	lasts(t, d, image)
	d.Sync()
	reads(t, d, 1, want)
	lasts(t, d, append(append([]byte(nil), image[:1024]...), want...))
}

func TestWriteOfAPageGoesSectorBySector(t *testing.T) {
	given := mixed(1024)
	for at := range 8 {
		d := made(t, 2)
		d.Write(1, given)
		keep := make([]bool, 8)
		keep[at] = true
		d.Cut(keep...)
		want := make([]byte, 2048)
		copy(want[1024+at*128:], given[at*128:at*128+128])
		lasts(t, d, want)
	}
}

func TestWhichErrorOfAWriteComesFirst(t *testing.T) {
	d := made(t, 1)
	answers(t, "a wrong length of no page", d.Write(1, full(3, 'a')), api.ErrRange)
	answers(t, "a wrong length below all pages", d.Write(-1, nil), api.ErrRange)
	counts(t, d, 0, 2, 0)

	d.Fail(kindWrite, 0)
	answers(t, "a wrong length of no page with a fault", d.Write(1, full(3, 'a')), api.ErrIO)
	answers(t, "a wrong length of no page behind it", d.Write(1, full(3, 'a')), api.ErrRange)
	counts(t, d, 0, 4, 0)

	d.Fail(kindWrite, 0)
	d.Trip(0)
	answers(t, "a wrong length of no page with a trip", d.Write(1, full(3, 'a')), api.ErrDark)
	answers(t, "a wrong length of no page in the dark", d.Write(1, full(3, 'a')), api.ErrDark)
	counts(t, d, 0, 4, 0)
	waits(t, d)
}

func TestWhichErrorOfAReadComesFirst(t *testing.T) {
	d := made(t, 1)
	d.Fail(kindRead, 0)
	refusesRead(t, d, 1, api.ErrIO)
	refusesRead(t, d, 1, api.ErrRange)
	counts(t, d, 2, 0, 0)
	d.Fail(kindRead, 0)
	d.Trip(0)
	refusesRead(t, d, 1, api.ErrDark)
	refusesRead(t, d, -1, api.ErrDark)
	counts(t, d, 2, 0, 0)
}

func TestReadTellsWhatWasWrittenLast(t *testing.T) {
	d := loaded(t, pages('p', 'q'))
	d.Write(0, page('a'))
	reads(t, d, 0, page('a'))
	d.Write(0, sector('b'))
	reads(t, d, 0, sectors('b', 'a', 'a', 'a', 'a', 'a', 'a', 'a'))
	d.Write(0, sector('c'))
	d.Write(1, sector('d'))
	reads(t, d, 0, sectors('c', 'a', 'a', 'a', 'a', 'a', 'a', 'a'))
	reads(t, d, 1, sectors('d', 'q', 'q', 'q', 'q', 'q', 'q', 'q'))
	d.Write(0, page('e'))
	reads(t, d, 0, page('e'))
	d.Write(0, sector('a'))
	d.Write(1, sector('f'))
	want := sectors('a', 'e', 'e', 'e', 'e', 'e', 'e', 'e', 'f', 'q', 'q', 'q', 'q', 'q', 'q', 'q')
	lasts(t, d, pages('p', 'q'))
	d.Sync()
	lasts(t, d, want)
	reads(t, d, 0, want[:1024])
	reads(t, d, 1, want[1024:])
	d.Write(0, sector('g'))
	reads(t, d, 0, sectors('g', 'e', 'e', 'e', 'e', 'e', 'e', 'e'))
	lasts(t, d, want)
}

func TestNoughtsAreWrittenToo(t *testing.T) {
	d := loaded(t, pages('p'))
	d.Write(0, sector(0))
	reads(t, d, 0, sectors(0, 'p', 'p', 'p', 'p', 'p', 'p', 'p'))
	d.Write(0, page(0))
	reads(t, d, 0, page(0))
	d.Cut()
	reads(t, d, 0, page('p'))
	d.Write(0, page(0))
	d.Sync()
	lasts(t, d, page(0))
}

func TestSyncOfNothing(t *testing.T) {
	d := loaded(t, mixed(2048))
	for done := range 3 {
		answers(t, "a sync of nothing", d.Sync(), api.OK)
		counts(t, d, 0, 0, done+1)
		waits(t, d)
		lasts(t, d, mixed(2048))
	}
}

func TestSyncOfSeveralWritesOfOneSector(t *testing.T) {
	d := made(t, 2)
	for _, c := range []byte("xyz") {
		d.Write(1, sector(c))
	}
	waits(t, d, 8, 8, 8)
	answers(t, "a sync", d.Sync(), api.OK)
	waits(t, d)
	lasts(t, d, sectors(0, 0, 0, 0, 0, 0, 0, 0, 'z', 0, 0, 0, 0, 0, 0, 0))
	counts(t, d, 0, 3, 1)

	d.Write(1, sector('u'))
	d.Write(1, page('v'))
	waits(t, d, 8, 8, 9, 10, 11, 12, 13, 14, 15)
	d.Sync()
	lasts(t, d, pages(0, 'v'))

	d.Write(1, page('v'))
	d.Write(1, sector('u'))
	d.Sync()
	lasts(t, d, sectors(0, 0, 0, 0, 0, 0, 0, 0, 'u', 'v', 'v', 'v', 'v', 'v', 'v', 'v'))
}

func TestWritesWaitInTheirOrder(t *testing.T) {
	d := made(t, 4)
	d.Write(2, sector('a'))
	d.Write(0, page('b'))
	d.Write(9, page('b'))
	d.Write(3, sector('c'))
	d.Write(3, full(129, 'c'))
	d.Write(0, sector('d'))
	d.Write(2, sector('e'))
	waits(t, d, 16, 0, 1, 2, 3, 4, 5, 6, 7, 24, 0, 16)
	counts(t, d, 0, 7, 0)
}

func TestAFullDiskIsWrittenAndRead(t *testing.T) {
	const size = 16384
	image := mixed(size * 1024)
	d := made(t, size)
	for number := range size {
		answers(t, "a write", d.Write(number, image[number*1024:number*1024+1024]), api.OK)
	}
	waits(t, d, from(0, size*8-1)...)
	for number := range size {
		reads(t, d, number, image[number*1024:number*1024+1024])
	}
	lasts(t, d, make([]byte, size*1024))
	answers(t, "a sync", d.Sync(), api.OK)
	lasts(t, d, image)
	waits(t, d)
	counts(t, d, size, size, 1)
}
