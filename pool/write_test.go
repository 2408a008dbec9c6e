package pool_test

import (
	"bytes"
	"slices"
	"testing"

	"codicil/api"
	"codicil/disk"
	"codicil/page"
)

// stands looks whether a disk has just the page that was sealed.
func stands(t *testing.T, d *disk.Disk, number uint32, kind uint8, payload []byte) {
	t.Helper()
	got, err := d.Read(int(number))
	if err != api.OK || !bytes.Equal(got, sealed(t, kind, number, payload)) {
		t.Errorf("page %d of the disk is another one (%v)", number, err)
	}
}

func TestWriteOfWhatIsNotAtHand(t *testing.T) {
	for kind := page.Leaf; kind <= page.Free; kind++ {
		for _, length := range []int{0, 1, 2, 100, 1007, 1008} {
			d := lettered(t, 4)
			p := made(t, d, 2)
			payload := mixed(length, uint32(kind))
			costs(t, "a write", d, 0, 1, 0, func() { writes(t, p, 3, kind, payload) })
			hasJust(t, p, 3)
			costs(t, "a read behind a write", d, 0, 0, 0, func() { reads(t, p, 3, kind, payload) })
			stands(t, d, 3, kind, payload)
			if len(d.Pending()) != 8 {
				t.Errorf("of a write %d sectors wait", len(d.Pending()))
			}
		}
	}
}

func TestWriteOfWhatIsAtHand(t *testing.T) {
	d := lettered(t, 4)
	p := made(t, d, 2)
	readsLetter(t, p, 0, 1)
	for at, payload := range []string{"one", "", "a longer one than that", "x"} {
		kind := uint8(at) + 1
		costs(t, "a write", d, 0, 1, 0, func() { writes(t, p, 0, kind, []byte(payload)) })
		hasJust(t, p, 0, 1)
		costs(t, "a read behind it", d, 0, 0, 0, func() { reads(t, p, 0, kind, []byte(payload)) })
		stands(t, d, 0, kind, []byte(payload))
	}
	readsLetter(t, p, 1)
}

func TestWriteUses(t *testing.T) {
	d := lettered(t, 6)
	p := made(t, d, 3)
	readsLetter(t, p, 1, 2, 3)
	writes(t, p, 1, page.Leaf, []byte("new"))
	writes(t, p, 4, page.Leaf, []byte("new"))
	hasJust(t, p, 1, 3, 4)
	readsLetter(t, p, 5)
	hasJust(t, p, 1, 4, 5)
	readsLetter(t, p, 0)
	hasJust(t, p, 0, 4, 5)
}

// TestWriteOfWhatTheDiskHadNot: a page that was none is one behind its write, and other pages stay.
func TestWriteOfWhatTheDiskHadNot(t *testing.T) {
	for _, u := range unreads() {
		d := lettered(t, 6)
		u.lay(t, d, 4)
		p := made(t, d, 1)
		refusesRead(t, p, 4, api.ErrPoolForm)
		writes(t, p, 4, page.Over, []byte("right"))
		readsLetter(t, p, 3, 5)
		reads(t, p, 4, page.Over, []byte("right"))
	}
}

type wrongPage struct {
	kind   uint8
	length int
}

func wrongPages() []wrongPage {
	return []wrongPage{{0, 0}, {0, 5}, {5, 0}, {5, 5}, {6, 1}, {128, 1}, {255, 1008}, {1, 1009}, {2, 1010}, {3, 1024}, {4, 70000}, {0, 1009}, {5, 2000}}
}

// TestWriteThatSealRefuses: whatever else is wrong, that comes first; nothing is done, and what is at hand stays as it was, not used.
func TestWriteThatSealRefuses(t *testing.T) {
	for _, w := range wrongPages() {
		d := lettered(t, 6)
		p := made(t, d, 2)
		readsLetter(t, p, 1, 2)
		payload := mixed(w.length, 3)
		costs(t, "a write that is refused", d, 0, 0, 0, func() {
			for _, number := range append(beyond(6), 0, 1, 2, 5) {
				refusesWrite(t, p, number, w.kind, payload, api.ErrPageForm)
			}
		})
		hasJust(t, p, 1, 2)
		readsLetter(t, p, 3)
		hasJust(t, p, 2, 3)
		p.Forget(2)
		readsLetter(t, p, 1, 2)
	}
}

func TestWriteBehindTheLastPage(t *testing.T) {
	for _, pages := range []int{1, 2, 5} {
		d := lettered(t, pages)
		p := made(t, d, 1)
		last := uint32(pages - 1)
		readsLetter(t, p, last)
		for _, number := range beyond(pages) {
			refusesWrite(t, p, number, page.Leaf, []byte("new"), api.ErrRange)
		}
		hasJust(t, p, last)
		counts(t, d, 1, 0, 0)
		readsLetter(t, p, last)
	}
}

// TestWriteThatIsRefusedTouchesNoOperation: neither a trip nor a fault is used up, and also in the dark the arguments come first.
func TestWriteThatIsRefusedTouchesNoOperation(t *testing.T) {
	d := lettered(t, 2)
	p := made(t, d, 2)
	refused := func() {
		t.Helper()
		refusesWrite(t, p, 2, 5, nil, api.ErrPageForm)
		refusesWrite(t, p, 1, 0, nil, api.ErrPageForm)
		refusesWrite(t, p, 1, 1, make([]byte, 1009), api.ErrPageForm)
		refusesWrite(t, p, 2, 1, nil, api.ErrRange)
		refusesWrite(t, p, greatest, 1, nil, api.ErrRange)
	}
	d.Fail(kindWrite, 0)
	refused()
	refusesWrite(t, p, 1, 1, nil, api.ErrIO)
	d.Trip(0)
	refused()
	if d.Dark() {
		t.Error("a write that is refused has used up the trip")
	}
	refusesWrite(t, p, 1, 1, nil, api.ErrDark)
	refused()
	counts(t, d, 0, 1, 0)
}

// fails are the ways in which the disk lets a write go wrong, and how many writes it counts then.
type fail struct {
	name    string
	lay     func(d *disk.Disk)
	want    api.Errno
	counted int
}

func fails() []fail {
	return []fail{
		{"a fault", func(d *disk.Disk) { d.Fail(kindWrite, 0) }, api.ErrIO, 1},
		{"a trip", func(d *disk.Disk) { d.Trip(0) }, api.ErrDark, 0},
		{"the dark", func(d *disk.Disk) { d.Trip(0); d.Sync() }, api.ErrDark, 0},
	}
}

// TestWriteThatFailsOfWhatIsAtHand: that page is not at hand any more, no other one goes, and the next read asks the disk.
func TestWriteThatFailsOfWhatIsAtHand(t *testing.T) {
	for _, f := range fails() {
		for _, most := range []int{2, 3, 9} {
			for _, failing := range []uint32{1, 2} {
				d := lettered(t, 6)
				p := made(t, d, most)
				readsLetter(t, p, 1, 2)
				f.lay(d)
				costs(t, f.name, d, 0, f.counted, 0, func() { refusesWrite(t, p, failing, page.Leaf, []byte("new"), f.want) })
				hasJust(t, p, 3-failing)
				if len(d.Pending()) != 0 {
					t.Errorf("%s: a write that failed waits", f.name)
				}
				d.Cut()
				costs(t, "a read behind "+f.name, d, 1, 0, 0, func() { readsLetter(t, p, failing) })
				hasJust(t, p, 1, 2)
			}
		}
	}
}

func TestWriteThatFailsOfWhatIsNotAtHand(t *testing.T) {
	for _, f := range fails() {
		for _, most := range []int{1, 2, 3} {
			d := lettered(t, 6)
			p := made(t, d, most)
			readsLetter(t, p, 1, 2, 3)
			want := []uint32{3, 2, 1}[:most]
			f.lay(d)
			costs(t, f.name, d, 0, f.counted, 0, func() { refusesWrite(t, p, 4, page.Leaf, []byte("new"), f.want) })
			hasJust(t, p, want...)
			d.Cut()
			costs(t, "a read behind "+f.name, d, 1, 0, 0, func() { readsLetter(t, p, 4) })
			hasJust(t, p, append(want[:most-1:most-1], 4)...)
		}
	}
}

// TestWriteThatFailsLeavesTheOrder: of those that stay, the one goes next that would have gone.
func TestWriteThatFailsLeavesTheOrder(t *testing.T) {
	for _, f := range fails() {
		for _, failing := range []uint32{1, 2, 3, 4} {
			d := lettered(t, 9)
			p := made(t, d, 3)
			readsLetter(t, p, 1, 2, 3)
			f.lay(d)
			refusesWrite(t, p, failing, page.Leaf, []byte("new"), f.want)
			d.Cut()
			stay := slices.DeleteFunc([]uint32{1, 2, 3}, func(number uint32) bool { return number == failing })
			hasJust(t, p, stay...)
			came := []uint32{5, 6, 7}[:3-len(stay)]
			readsLetter(t, p, came...)
			order := append(stay, came...)
			readsLetter(t, p, 8)
			hasJust(t, p, order[1], order[2], 8)
			readsLetter(t, p, 0)
			hasJust(t, p, order[2], 8, 0)
		}
	}
}

// TestWriteThatFailsBehindOneThatDidNot: the next read tells what the disk has, which is the write ahead.
func TestWriteThatFailsBehindOneThatDidNot(t *testing.T) {
	d := lettered(t, 3)
	p := made(t, d, 2)
	writes(t, p, 1, page.Branch, []byte("first"))
	d.Fail(kindWrite, 0)
	refusesWrite(t, p, 1, page.Leaf, []byte("second"), api.ErrIO)
	hasJust(t, p)
	costs(t, "a read", d, 1, 0, 0, func() { reads(t, p, 1, page.Branch, []byte("first")) })
	writes(t, p, 1, page.Leaf, []byte("second"))
	reads(t, p, 1, page.Leaf, []byte("second"))
}

func TestWriteBehindATrip(t *testing.T) {
	d := lettered(t, 6)
	p := made(t, d, 4)
	readsLetter(t, p, 1, 2)
	d.Trip(2)
	writes(t, p, 3, page.Leaf, []byte("three"))
	writes(t, p, 1, page.Leaf, []byte("one"))
	for range 2 {
		refusesWrite(t, p, 1, page.Leaf, []byte("other"), api.ErrDark)
		refusesWrite(t, p, 4, page.Leaf, []byte("four"), api.ErrDark)
		refusesRead(t, p, 1, api.ErrDark)
		hasJust(t, p, 2, 3)
		reads(t, p, 3, page.Leaf, []byte("three"))
		readsLetter(t, p, 2)
	}
	counts(t, d, 2, 2, 0)
	d.Cut()
	readsLetter(t, p, 1, 4)
	reads(t, p, 3, page.Leaf, []byte("three"))
	hasJust(t, p, 1, 2, 3, 4)
}
