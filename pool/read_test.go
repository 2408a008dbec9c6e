package pool_test

import (
	"testing"

	"codicil/api"
	"codicil/disk"
	"codicil/page"
)

func TestReadOfWhatIsAtHand(t *testing.T) {
	d := lettered(t, 5)
	p := made(t, d, 3)
	readsLetter(t, p, 0, 1, 4)
	counts(t, d, 3, 0, 0)
	for range 3 {
		readsLetter(t, p, 4, 0, 1, 1)
	}
	counts(t, d, 3, 0, 0)
	hasJust(t, p, 0, 1, 4)
}

func TestReadOfWhatIsNotAtHand(t *testing.T) {
	d := lettered(t, 8)
	p := made(t, d, 8)
	for number := range uint32(8) {
		costs(t, "a read", d, 1, 0, 0, func() { readsLetter(t, p, number) })
		if !p.Has(number) {
			t.Errorf("%d was read and is not at hand", number)
		}
	}
	counts(t, d, 8, 0, 0)
}

func TestReadOfAnyLength(t *testing.T) {
	for kind := page.Leaf; kind <= page.Free; kind++ {
		for _, length := range []int{0, 1, 2, 100, 1007, 1008} {
			d := blank(t, 3)
			payload := mixed(length, uint32(kind))
			d.Write(1, sealed(t, kind, 1, payload))
			p := made(t, d, 1)
			reads(t, p, 1, kind, payload)
			reads(t, p, 1, kind, payload)
			counts(t, d, 1, 1, 0)
		}
	}
}

func TestReadBehindTheLastPage(t *testing.T) {
	for _, pages := range []int{1, 2, 5} {
		d := lettered(t, pages)
		p := made(t, d, 1)
		readsLetter(t, p, uint32(pages-1))
		for _, number := range beyond(pages) {
			refusesRead(t, p, number, api.ErrRange)
		}
		hasJust(t, p, uint32(pages-1))
		counts(t, d, 1, 0, 0)
	}
}

// TestReadBehindTheLastPageTouchesNoOperation: neither a trip nor a fault is used up, and the page comes first as an error.
func TestReadBehindTheLastPageTouchesNoOperation(t *testing.T) {
	d := lettered(t, 2)
	p := made(t, d, 2)
	d.Fail(kindRead, 0)
	refusesRead(t, p, 2, api.ErrRange)
	refusesRead(t, p, greatest, api.ErrRange)
	refusesRead(t, p, 1, api.ErrIO)
	d.Trip(0)
	refusesRead(t, p, 2, api.ErrRange)
	if d.Dark() {
		t.Error("a read that is refused has used up the trip")
	}
	refusesRead(t, p, 1, api.ErrDark)
	refusesRead(t, p, 2, api.ErrRange)
	counts(t, d, 1, 0, 0)
}

// unread lays a page on a disk of right ones that no pool may take.
type unread struct {
	name string
	lay  func(t *testing.T, d *disk.Disk, number uint32)
}

func unreads() []unread {
	return []unread{
		{"noughts", func(t *testing.T, d *disk.Disk, number uint32) { d.Write(int(number), make([]byte, 1024)) }},
		{"another number", func(t *testing.T, d *disk.Disk, number uint32) {
			d.Write(int(number), sealed(t, page.Leaf, number+1, []byte("other")))
		}},
		{"the number of another page that is there", func(t *testing.T, d *disk.Disk, number uint32) {
			b, _ := d.Read(int(number) - 1)
			d.Write(int(number), b)
		}},
		{"another first sector", func(t *testing.T, d *disk.Disk, number uint32) {
			d.Write(int(number), sealed(t, page.Leaf, number, []byte("new"))[:128])
		}},
		{"one other bit", func(t *testing.T, d *disk.Disk, number uint32) {
			b, _ := d.Read(int(number))
			b[700] ^= 8
			d.Write(int(number), b)
		}},
		{"a state", func(t *testing.T, d *disk.Disk, number uint32) {
			b, _ := page.PutMeta(api.Meta{Generation: 1, Pages: 2})
			d.Write(int(number), b)
		}},
	}
}

// TestReadOfWhatIsNoPage: it is told so, the disk is asked each time, nothing comes in and nothing goes, and nothing is used.
func TestReadOfWhatIsNoPage(t *testing.T) {
	for _, u := range unreads() {
		d := lettered(t, 6)
		u.lay(t, d, 4)
		p := made(t, d, 2)
		readsLetter(t, p, 1, 2)
		for range 3 {
			costs(t, "a read of "+u.name, d, 1, 0, 0, func() { refusesRead(t, p, 4, api.ErrPoolForm) })
			hasJust(t, p, 1, 2)
		}
		readsLetter(t, p, 0)
		hasJust(t, p, 0, 2)
	}
}

func TestReadOfATornPage(t *testing.T) {
	for kept := range 8 {
		d := lettered(t, 3)
		writes(t, made(t, d, 1), 1, page.Branch, mixed(1008, 7))
		keep := make([]bool, 8)
		keep[kept] = true
		d.Cut(keep...)
		p := made(t, d, 2)
		readsLetter(t, p, 0, 2)
		refusesRead(t, p, 1, api.ErrPoolForm)
		hasJust(t, p, 0, 2)
	}
}

func TestReadThatIsMended(t *testing.T) {
	for _, u := range unreads() {
		d := lettered(t, 6)
		u.lay(t, d, 4)
		p := made(t, d, 1)
		refusesRead(t, p, 4, api.ErrPoolForm)
		d.Write(4, sealed(t, page.Over, 4, []byte("mended")))
		reads(t, p, 4, page.Over, []byte("mended"))
		hasJust(t, p, 4)
	}
}

func TestReadThatFails(t *testing.T) {
	d := lettered(t, 6)
	p := made(t, d, 2)
	readsLetter(t, p, 1, 2)
	d.Fail(kindRead, 0)
	readsLetter(t, p, 2, 1, 2)
	costs(t, "a read that fails", d, 1, 0, 0, func() { refusesRead(t, p, 4, api.ErrIO) })
	hasJust(t, p, 1, 2)
	costs(t, "the read behind it", d, 1, 0, 0, func() { readsLetter(t, p, 4) })
	hasJust(t, p, 2, 4)
}

// TestReadThatFailsComesAheadOfItsForm: what was not read is not told as wrong.
func TestReadThatFailsComesAheadOfItsForm(t *testing.T) {
	d := blank(t, 3)
	p := made(t, d, 2)
	d.Fail(kindRead, 0)
	refusesRead(t, p, 1, api.ErrIO)
	refusesRead(t, p, 1, api.ErrPoolForm)
	d.Trip(0)
	refusesRead(t, p, 1, api.ErrDark)
}

func TestReadInTheDark(t *testing.T) {
	d := lettered(t, 6)
	p := made(t, d, 2)
	readsLetter(t, p, 1, 2)
	d.Trip(0)
	readsLetter(t, p, 1, 2)
	if d.Dark() {
		t.Error("a read of what is at hand has used up the trip")
	}
	refusesRead(t, p, 4, api.ErrDark)
	for range 2 {
		readsLetter(t, p, 2, 1)
		refusesRead(t, p, 0, api.ErrDark)
		refusesRead(t, p, 6, api.ErrRange)
		hasJust(t, p, 1, 2)
	}
	counts(t, d, 2, 0, 0)
	d.Cut()
	readsLetter(t, p, 4)
	hasJust(t, p, 1, 4)
}

// TestReadThatIsRefusedUsesNothing: which page goes next hangs on nothing that was refused.
func TestReadThatIsRefusedUsesNothing(t *testing.T) {
	d := lettered(t, 6)
	d.Write(5, make([]byte, 1024))
	p := made(t, d, 3)
	readsLetter(t, p, 1, 2, 3)
	refusesRead(t, p, 5, api.ErrPoolForm)
	refusesRead(t, p, 6, api.ErrRange)
	d.Fail(kindRead, 0)
	refusesRead(t, p, 4, api.ErrIO)
	hasJust(t, p, 1, 2, 3)
	readsLetter(t, p, 0)
	hasJust(t, p, 0, 2, 3)
	readsLetter(t, p, 4)
	hasJust(t, p, 0, 3, 4)
}

// TestReadKeepsToWhatIsAtHand: what others write to the disk is seen when a page is not at hand any more.
func TestReadKeepsToWhatIsAtHand(t *testing.T) {
	d := lettered(t, 3)
	p := made(t, d, 2)
	readsLetter(t, p, 1)
	d.Write(1, sealed(t, page.Free, 1, []byte("new")))
	readsLetter(t, p, 1)
	p.Forget(1)
	reads(t, p, 1, page.Free, []byte("new"))
	d.Write(1, make([]byte, 1024))
	reads(t, p, 1, page.Free, []byte("new"))
	p.Forget(1)
	refusesRead(t, p, 1, api.ErrPoolForm)
}
