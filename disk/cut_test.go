package disk_test

import (
	"testing"

	"codicil/api"
)

// kept says of n writes that just these are kept.
func kept(n int, these ...int) []bool {
	out := make([]bool, n)
	for _, at := range these {
		out[at] = true
	}
	return out
}

func TestCutKeepsJustWhatItSays(t *testing.T) {
	sixteen := kept(16)
	for at := range sixteen {
		sixteen[at] = true
	}
	for _, c := range []struct {
		name string
		keep []bool
		want []byte
	}{
		{"none", nil, pages('p', 'q')},
		{"an empty one", []bool{}, pages('p', 'q')},
		{"one that is false", []bool{false}, pages('p', 'q')},
		{"the first", []bool{true}, sectors('a', 'p', 'p', 'p', 'p', 'p', 'p', 'p', 'q', 'q', 'q', 'q', 'q', 'q', 'q', 'q')},
		{"the second", []bool{false, true}, sectors('p', 'a', 'p', 'p', 'p', 'p', 'p', 'p', 'q', 'q', 'q', 'q', 'q', 'q', 'q', 'q')},
		{"nine of them", sixteen[:9], sectors('a', 'a', 'a', 'a', 'a', 'a', 'a', 'a', 'b', 'q', 'q', 'q', 'q', 'q', 'q', 'q')},
		{"the last", kept(16, 15), sectors('p', 'p', 'p', 'p', 'p', 'p', 'p', 'p', 'q', 'q', 'q', 'q', 'q', 'q', 'q', 'b')},
		{"the ends", kept(16, 0, 15), sectors('a', 'p', 'p', 'p', 'p', 'p', 'p', 'p', 'q', 'q', 'q', 'q', 'q', 'q', 'q', 'b')},
		{"as many as there are, none true", kept(16), pages('p', 'q')},
		{"all", sixteen, pages('a', 'b')},
		{"more than there are", kept(100, 8, 16, 17, 99), sectors('p', 'p', 'p', 'p', 'p', 'p', 'p', 'p', 'b', 'q', 'q', 'q', 'q', 'q', 'q', 'q')},
		{"all and more", append(append([]bool(nil), sixteen...), sixteen...), pages('a', 'b')},
	} {
		for _, dark := range []bool{false, true} {
			t.Run(c.name, func(t *testing.T) { cutOnce(t, dark, c.keep, c.want) })
		}
	}
}

func cutOnce(t *testing.T, dark bool, keep []bool, want []byte) {
	d := loaded(t, pages('p', 'q'))
	d.Write(0, page('a'))
	d.Write(1, page('b'))
	if dark {
		d.Trip(0)
		d.Sync()
	}
	isDark(t, d, dark)
	waits(t, d, from(0, 15)...)
	d.Cut(keep...)
	isDark(t, d, false)
	lasts(t, d, want)
	waits(t, d)
	counts(t, d, 0, 2, 0)
	reads(t, d, 0, want[:1024])
	reads(t, d, 1, want[1024:])
	answers(t, "a write behind it", d.Write(0, sector('z')), api.OK)
	waits(t, d, 0)
	answers(t, "a sync behind it", d.Sync(), api.OK)
	counts(t, d, 2, 3, 1)
}

func TestCutOfSeveralWritesOfOneSector(t *testing.T) {
	for mask := range 32 {
		d := loaded(t, page('p'))
		keep := make([]bool, 5)
		want := byte('p')
		for at, c := range []byte("abcde") {
			d.Write(0, sector(c))
			if mask>>at&1 == 1 {
				keep[at] = true
				want = c
			}
		}
		reads(t, d, 0, sectors('e', 'p', 'p', 'p', 'p', 'p', 'p', 'p'))
		waits(t, d, 0, 0, 0, 0, 0)
		d.Cut(keep...)
		lasts(t, d, sectors(want, 'p', 'p', 'p', 'p', 'p', 'p', 'p'))
		reads(t, d, 0, sectors(want, 'p', 'p', 'p', 'p', 'p', 'p', 'p'))
	}
}

func TestCutOfPagesAndSectorsAboveOneAnother(t *testing.T) {
	write := func() (first []byte, cut func(keep ...bool) []byte) {
		d := loaded(t, page('p'))
		d.Write(0, page('a'))
		d.Write(0, sector('b'))
		d.Write(0, page('c'))
		return d.Image(), func(keep ...bool) []byte { d.Cut(keep...); return d.Image() }
	}
	for _, c := range []struct {
		keep []int
		want []byte
	}{
		{[]int{8}, sectors('b', 'p', 'p', 'p', 'p', 'p', 'p', 'p')},
		{[]int{0, 8}, sectors('b', 'p', 'p', 'p', 'p', 'p', 'p', 'p')},
		{[]int{0, 3, 12}, sectors('a', 'p', 'p', 'c', 'p', 'p', 'p', 'p')},
		{[]int{3, 8, 9}, sectors('c', 'p', 'p', 'a', 'p', 'p', 'p', 'p')},
		{[]int{7, 16}, sectors('p', 'p', 'p', 'p', 'p', 'p', 'p', 'c')},
		{[]int{1, 7, 8, 11}, sectors('b', 'a', 'c', 'p', 'p', 'p', 'p', 'a')},
	} {
		first, cut := write()
		if string(first) != string(page('p')) || string(cut(kept(17, c.keep...)...)) != string(c.want) {
			t.Errorf("kept are %v: another image", c.keep)
		}
	}
}

func TestCutBehindASyncLosesNothing(t *testing.T) {
	for _, keep := range [][]bool{nil, {false}, {true}, kept(8), kept(20, 0, 7, 19)} {
		d := made(t, 2)
		d.Write(1, page('a'))
		d.Write(1, sector('b'))
		d.Sync()
		d.Cut(keep...)
		want := sectors(0, 0, 0, 0, 0, 0, 0, 0, 'b', 'a', 'a', 'a', 'a', 'a', 'a', 'a')
		lasts(t, d, want)
		d.Write(0, page('c'))
		d.Cut()
		lasts(t, d, want)
		d.Cut()
		lasts(t, d, want)
		counts(t, d, 0, 3, 1)
	}
}

func TestKeepCountsFromTheLastSyncOn(t *testing.T) {
	d := made(t, 1)
	d.Write(0, page('a'))
	d.Sync()
	d.Write(0, sector('b'))
	d.Write(0, sector('c'))
	d.Cut(true, false)
	lasts(t, d, sectors('b', 'a', 'a', 'a', 'a', 'a', 'a', 'a'))
	d.Write(0, sector('d'))
	d.Write(0, sector('e'))
	d.Cut(true)
	lasts(t, d, sectors('d', 'a', 'a', 'a', 'a', 'a', 'a', 'a'))
}

func TestWhatWasLostDoesNotComeBack(t *testing.T) {
	d := loaded(t, page('p'))
	d.Write(0, page('a'))
	d.Cut()
	reads(t, d, 0, page('p'))
	d.Cut(kept(8, 0, 1, 2, 3, 4, 5, 6, 7)...)
	lasts(t, d, page('p'))
	d.Sync()
	lasts(t, d, page('p'))
	d.Write(0, sector('b'))
	reads(t, d, 0, sectors('b', 'p', 'p', 'p', 'p', 'p', 'p', 'p'))
}

func TestCutIsNoOperation(t *testing.T) {
	d := made(t, 1)
	d.Cut()
	d.Cut(true)
	counts(t, d, 0, 0, 0)
	isDark(t, d, false)
	d.Trip(0)
	d.Cut()
	isDark(t, d, false)
	answers(t, "a sync", d.Sync(), api.OK)
	counts(t, d, 0, 0, 1)
}
