package pool_test

import (
	"bytes"
	"slices"
	"testing"

	"codicil/api"
	"codicil/page"
)

func TestSync(t *testing.T) {
	d := lettered(t, 4)
	p := made(t, d, 2)
	costs(t, "a sync", d, 0, 0, 1, func() { answers(t, "a sync of nothing", p.Sync(), api.OK) })
	writes(t, p, 1, page.Leaf, []byte("one"))
	writes(t, p, 2, page.Branch, []byte("two"))
	if image := d.Image(); bytes.Contains(image, []byte("one")) {
		t.Error("what is written lasts ahead of a sync")
	}
	costs(t, "a sync", d, 0, 0, 1, func() { answers(t, "a sync", p.Sync(), api.OK) })
	if len(d.Pending()) != 0 {
		t.Error("behind a sync something waits")
	}
	if !bytes.Equal(d.Image()[1024:2048], sealed(t, page.Leaf, 1, []byte("one"))) {
		t.Error("behind a sync something else lasts")
	}
	hasJust(t, p, 1, 2)
	costs(t, "reads behind a sync", d, 0, 0, 0, func() {
		reads(t, p, 1, page.Leaf, []byte("one"))
		reads(t, p, 2, page.Branch, []byte("two"))
	})
}

func TestSyncUsesNoPage(t *testing.T) {
	d := lettered(t, 6)
	p := made(t, d, 2)
	writes(t, p, 1, page.Leaf, []byte("one"))
	writes(t, p, 2, page.Leaf, []byte("two"))
	p.Sync()
	hasJust(t, p, 1, 2)
	readsLetter(t, p, 3)
	hasJust(t, p, 2, 3)
}

func TestSyncThatFails(t *testing.T) {
	d := lettered(t, 4)
	p := made(t, d, 2)
	writes(t, p, 1, page.Leaf, []byte("one"))
	image, waiting := d.Image(), d.Pending()
	d.Fail(kindSync, 0)
	costs(t, "a sync that fails", d, 0, 0, 1, func() { answers(t, "a sync that fails", p.Sync(), api.ErrIO) })
	if !bytes.Equal(d.Image(), image) || !slices.Equal(d.Pending(), waiting) {
		t.Error("a sync that fails has changed the disk")
	}
	hasJust(t, p, 1)
	costs(t, "a read", d, 0, 0, 0, func() { reads(t, p, 1, page.Leaf, []byte("one")) })
	answers(t, "the sync behind it", p.Sync(), api.OK)
	d.Cut()
	reads(t, made(t, d, 1), 1, page.Leaf, []byte("one"))
}

func TestSyncBehindATrip(t *testing.T) {
	d := lettered(t, 4)
	p := made(t, d, 2)
	d.Trip(1)
	writes(t, p, 1, page.Leaf, []byte("one"))
	for range 2 {
		costs(t, "a sync", d, 0, 0, 0, func() { answers(t, "a sync in the dark", p.Sync(), api.ErrDark) })
		hasJust(t, p, 1)
		reads(t, p, 1, page.Leaf, []byte("one"))
	}
	d.Cut()
	readsLetter(t, made(t, d, 2), 1)
}

// TestACutBehindASyncLosesNothing, whatever it keeps.
func TestACutBehindASyncLosesNothing(t *testing.T) {
	for _, most := range []int{1, 2, 9} {
		for _, keep := range [][]bool{nil, {true}, {false, true, true}} {
			d := blank(t, 5)
			p := made(t, d, most)
			for number := range uint32(5) {
				writes(t, p, number, page.Leaf, mixed(1008, number))
				writes(t, p, number, page.Over, mixed(900, number+100))
			}
			answers(t, "a sync", p.Sync(), api.OK)
			d.Cut(keep...)
			for _, asked := range []int{1, 3} {
				again := made(t, d, asked)
				for number := range uint32(5) {
					reads(t, again, number, page.Over, mixed(900, number+100))
				}
			}
		}
	}
}

// TestACutWithoutASync: a new pool tells what the disk has then: a page as it was, or as it was written, or none.
func TestACutWithoutASync(t *testing.T) {
	elder, newer := mixed(1008, 1), mixed(1008, 2)
	for kept := range 9 {
		d := blank(t, 3)
		p := made(t, d, 2)
		writes(t, p, 1, page.Leaf, elder)
		p.Sync()
		writes(t, p, 1, page.Branch, newer)
		writes(t, p, 2, page.Branch, newer)
		keep := make([]bool, 8)
		for at := range kept {
			keep[at] = true
		}
		d.Cut(keep...)
		again := made(t, d, 2)
		switch kept {
		case 0:
			reads(t, again, 1, page.Leaf, elder)
		case 8:
			reads(t, again, 1, page.Branch, newer)
		default:
			refusesRead(t, again, 1, api.ErrPoolForm)
		}
		refusesRead(t, again, 2, api.ErrPoolForm)
		costs(t, "reads of the elder pool", d, 0, 0, 0, func() {
			reads(t, p, 1, page.Branch, newer)
			reads(t, p, 2, page.Branch, newer)
		})
		p.Forget(2)
		refusesRead(t, p, 2, api.ErrPoolForm)
	}
}
