package over_test

import (
	"slices"
	"testing"

	"codicil/api"
	"codicil/disk"
	"codicil/page"
)

// readKind is the disk's kind of a read.
const readKind = 1

// ends looks whether Read tells an error behind so many pages: these are read, once each if the pool was empty, and nothing else is; of them all that are pages have come in.
func ends(t *testing.T, what string, d *disk.Disk, first, size uint32, want api.Errno, reads int, athand ...uint32) {
	t.Helper()
	p := made(t, d, 20)
	costs(t, what, d, reads, func() { refusesRead(t, p, first, size, want) })
	hasJust(t, p, athand...)
}

// TestReadOfOtherSizes asks for one byte less and one byte more than the value has, and for many other sizes. It ends at the first page that tells: all ahead of it are full, and lead on.
func TestReadOfOtherSizes(t *testing.T) {
	for _, size := range edges {
		at := from(3, plainNeed(size))
		d := loaded(t, 13, sheets(mixed(size, 21), at)...)
		for _, other := range append(edges, size-1, size+1, size-1004, size+1004) {
			if other == size || plainNeed(other) == 0 {
				continue
			}
			reads := min(plainNeed(size), plainNeed(other))
			ends(t, "another size", d, 3, uint32(other), api.ErrOverForm, reads, at[:reads]...)
		}
		if plainNeed(size-1) == 0 {
			ends(t, "one byte less", d, 3, uint32(size-1), api.ErrOverForm, 0)
		}
		if plainNeed(size+1) == 0 {
			ends(t, "one byte more", d, 3, uint32(size+1), api.ErrOverForm, 0)
		}
	}
}

func TestReadFromAPageThatTheDiskHasNot(t *testing.T) {
	d := loaded(t, 6, sheets(mixed(70, 22), []uint32{5})...)
	for _, first := range []uint32{6, 7, 1<<16 + 5, 16383, 16384, 1 << 24, 1<<31 + 5, greatest} {
		for _, size := range []uint32{65, 70, 8192} {
			ends(t, "out of the disk", d, first, size, api.ErrRange, 0)
		}
	}
	reads(t, made(t, d, 1), mixed(70, 22), []uint32{5})
}

func TestReadFromWhatIsNoPage(t *testing.T) {
	d := loaded(t, 6)
	for first := range uint32(6) {
		ends(t, "noughts", d, first, 100, api.ErrPoolForm, 1)
		ends(t, "noughts", d, first, 8192, api.ErrPoolForm, 1)
	}
}

// TestReadFromTheFirstPages: which page is the first, the caller says.
func TestReadFromTheFirstPages(t *testing.T) {
	value := mixed(1500, 23)
	for _, at := range [][]uint32{{0, 2}, {1, 2}, {0, 3}, {1, 3}} {
		reads(t, made(t, loaded(t, 4, sheets(value, at)...), 2), value, at)
	}
	for first := range uint32(2) {
		reads(t, made(t, loaded(t, 4, sheets(value[:1004], []uint32{first})...), 2), value[:1004], []uint32{first})
	}
}

// broken is what may be wrong with one page of a right chain: what is laid in its place, and what Read tells then.
type broken struct {
	name string
	lay  func(s sheet) sheet
	want api.Errno
}

func (b broken) applied(all []sheet, place int) []sheet {
	out := slices.Clone(all)
	out[place] = b.lay(sheet{out[place].number, out[place].kind, slices.Clone(out[place].payload)})
	return out
}

func ofKind(kind uint8) func(s sheet) sheet {
	return func(s sheet) sheet { return sheet{s.number, kind, s.payload} }
}

// cutTo leaves so many bytes of a payload.
func cutTo(length int) func(s sheet) sheet {
	return func(s sheet) sheet { return sheet{s.number, s.kind, s.payload[:min(length, len(s.payload))]} }
}

func withNext(next uint32) func(s sheet) sheet {
	return func(s sheet) sheet { return sheet{s.number, s.kind, payload(next, s.payload[4:])} }
}

// wrongAnywhere are those that are wrong in each place of one of chains.
func wrongAnywhere() []broken {
	form := api.ErrOverForm
	return []broken{
		{"a leaf", ofKind(page.Leaf), form}, {"a branch", ofKind(page.Branch), form}, {"a free one", ofKind(page.Free), form},
		{"a leaf without bytes", func(s sheet) sheet { return sheet{s.number, page.Leaf, nil} }, form},
		{"no bytes", cutTo(0), form}, {"one byte", cutTo(1), form}, {"two bytes", cutTo(2), form}, {"three bytes", cutTo(3), form},
		{"just the next page", cutTo(4), form}, {"one byte of the value", cutTo(5), form},
		{"one byte less", func(s sheet) sheet { return cutTo(len(s.payload) - 1)(s) }, form},
		{"four bytes less", func(s sheet) sheet { return cutTo(len(s.payload) - 4)(s) }, form},
	}
}

// wrongAtTheEnd are those that are wrong at the last page, which has room.
func wrongAtTheEnd(at []uint32) []broken {
	out := []broken{
		{"one byte more", func(s sheet) sheet { return sheet{s.number, s.kind, append(s.payload, 0)} }, api.ErrOverForm},
		{"as many as may be", func(s sheet) sheet {
			return sheet{s.number, s.kind, append(s.payload, make([]byte, 1008-len(s.payload))...)}
		}, api.ErrOverForm},
	}
	for _, next := range append([]uint32{1, 2, 12, 13, 14, 255, 256, 16383, 16384, 1 << 16, 1 << 24, 1 << 31, greatest}, at...) {
		out = append(out, broken{"a next page at the last", withNext(next), api.ErrOverForm})
	}
	return out
}

// chains are right ones of one page to nine, whose last page is not full, and has two bytes at least.
func chains() [][]sheet {
	var out [][]sheet
	for _, size := range []int{65, 70, 1003, 1006, 1500, 2007, 2500, 4100, 8034, 8192} {
		at := from(3, plainNeed(size))
		slices.Reverse(at[:len(at)-1])
		out = append(out, sheets(mixed(size, 24), at))
	}
	return out
}

func pagesOf(chain []sheet) []uint32 {
	var out []uint32
	for _, s := range chain {
		out = append(out, s.number)
	}
	return out
}

func sizeOf(chain []sheet) uint32 {
	size := 0
	for _, s := range chain {
		size += len(s.payload) - 4
	}
	return uint32(size)
}

// endsThere lays what is wrong in one place of a chain: that page is read, and no page behind it, and it has come in.
func endsThere(t *testing.T, chain []sheet, place int, b broken) {
	t.Helper()
	d := loaded(t, 13, b.applied(chain, place)...)
	at := pagesOf(chain)
	ends(t, b.name, d, at[0], sizeOf(chain), b.want, place+1, at[:place+1]...)
}

func TestAChainWithAWrongPage(t *testing.T) {
	for _, chain := range chains() {
		for _, b := range wrongAnywhere() {
			for place := range chain {
				endsThere(t, chain, place, b)
			}
		}
		for _, b := range wrongAtTheEnd(pagesOf(chain)) {
			endsThere(t, chain, len(chain)-1, b)
		}
	}
}

// TestAChainThatEndsTooSoon: a page has no next one where one must be.
func TestAChainThatEndsTooSoon(t *testing.T) {
	for _, chain := range chains() {
		for place := range len(chain) - 1 {
			endsThere(t, chain, place, broken{"no next page", withNext(0), api.ErrOverForm})
		}
	}
}

// noNext are numbers that Encode gives no page as its next one, but for the 0 of the last.
var noNext = []uint32{0, 1, 16384, 16385, 27651, 1<<16 - 1, 1 << 16, 1<<16 + 3, 1 << 24, 1<<24 + 3, 1<<31 - 1, 1 << 31, 1<<31 + 3, greatest - 1, greatest}

// TestAChainThatLeadsWhereNoValueMayStand: a next page that Encode would not give is told by the page that has it.
func TestAChainThatLeadsWhereNoValueMayStand(t *testing.T) {
	for _, chain := range chains() {
		for place := range len(chain) - 1 {
			for _, next := range noNext {
				endsThere(t, chain, place, broken{"no such next page", withNext(next), api.ErrOverForm})
			}
		}
	}
}

// TestAChainThatLeadsToTheFirstPages: also where all that is missing stands on page 0 or 1, in a disk that has all pages that may be.
func TestAChainThatLeadsToTheFirstPages(t *testing.T) {
	value := mixed(1500, 28)
	for _, pages := range []int{3, 4, 16384} {
		for next := range uint32(2) {
			rest := sheet{next, page.Over, payload(0, value[1004:])}
			d := loaded(t, pages, sheet{2, page.Over, payload(next, value[:1004])}, rest)
			ends(t, "a first page as the next one", d, 2, 1500, api.ErrOverForm, 1, 2)
		}
	}
}

// TestAChainThatLeadsToTheEdges: the least and the greatest page are next ones that may be, and the one behind is none.
func TestAChainThatLeadsToTheEdges(t *testing.T) {
	value := mixed(3000, 29)
	for _, at := range [][]uint32{{3, 2, 16383}, {3, 16383, 2}, {16383, 2, 3}, {2, 16383, 3}} {
		reads(t, made(t, loaded(t, 16384, sheets(value, at)...), 2), value, at)
	}
	for _, next := range noNext {
		d := loaded(t, 16384, sheet{5, page.Over, payload(next, value[:1004])})
		ends(t, "no such next page", d, 5, 3000, api.ErrOverForm, 1, 5)
	}
}

// TestAChainThatGoesOnTooLong: of full pages, the last one that is asked for leads on.
func TestAChainThatGoesOnTooLong(t *testing.T) {
	chain := sheets(mixed(8192, 25), from(3, 9))
	for pages := 1; pages <= 8; pages++ {
		d := loaded(t, 13, chain...)
		ends(t, "a next page at the last", d, 3, uint32(1004*pages), api.ErrOverForm, pages, from(3, pages)...)
	}
}

// TestAChainWithTornPages: a page that is no right one is read, and does not come in; nothing behind it is read.
func TestAChainWithTornPages(t *testing.T) {
	for _, chain := range chains() {
		at := pagesOf(chain)
		for place := range chain {
			for _, torn := range []func(image []byte, start int){
				func(image []byte, start int) { image[start+20] ^= 1 },
				func(image []byte, start int) { image[start+1023] ^= 128 },
				func(image []byte, start int) { clear(image[start : start+128]) },
				func(image []byte, start int) { clear(image[start+896 : start+1024]) },
				func(image []byte, start int) { clear(image[start : start+1024]) },
				func(image []byte, start int) { copy(image[start:start+1024], image[1024*12:]) },
			} {
				image := loaded(t, 13, append(chain, sheet{12, page.Over, chain[place].payload})...).Image()
				torn(image, 1024*int(at[place]))
				d, _ := disk.Load(image)
				ends(t, "a torn page", d, at[0], sizeOf(chain), api.ErrPoolForm, place+1, at[:place]...)
			}
		}
	}
}

// TestAChainThatLeadsOutOfTheDisk: to pages that may be, but that this disk has not; nothing is read for the page that is not there.
func TestAChainThatLeadsOutOfTheDisk(t *testing.T) {
	for _, chain := range chains() {
		at := pagesOf(chain)
		for place := range len(chain) - 1 {
			for _, next := range []uint32{13, 14, 255, 256, 1<<8 + 3, 16382, 16383} {
				d := loaded(t, 13, broken{"", withNext(next), 0}.applied(chain, place)...)
				ends(t, "out of the disk", d, at[0], sizeOf(chain), api.ErrRange, place+1, at[:place+1]...)
			}
		}
	}
}

// TestAChainThatComesBack: a page that comes twice is read twice (which a pool of one page tells, but for a page that leads to itself), and as the last one it leads on, which it must not.
func TestAChainThatComesBack(t *testing.T) {
	for _, chain := range chains() {
		at := pagesOf(chain)
		for place := range len(chain) - 1 {
			for back := range place + 1 {
				all := broken{"", withNext(at[back]), 0}.applied(chain, place)
				d := loaded(t, 13, all...)
				ends(t, "a round, with room for it", d, at[0], sizeOf(chain), api.ErrOverForm, place+1, at[:place+1]...)
				reads := len(chain)
				if back == place {
					reads = place + 1
				}
				p := made(t, d, 1)
				costs(t, "a round, without room for it", d, reads, func() { refusesRead(t, p, at[0], sizeOf(chain), api.ErrOverForm) })
			}
		}
	}
}

// TestTheFirstThingThatIsWrongIsTold: pages behind it are not looked at.
func TestTheFirstThingThatIsWrongIsTold(t *testing.T) {
	chain := sheets(mixed(4000, 26), []uint32{6, 3, 5, 4})
	for place := range 3 {
		for behind := place + 1; behind < 4; behind++ {
			image := loaded(t, 13, broken{"", ofKind(page.Leaf), 0}.applied(chain, place)...).Image()
			image[1024*chain[behind].number+50] ^= 1
			d, _ := disk.Load(image)
			ends(t, "a leaf ahead of a torn page", d, 6, 4000, api.ErrOverForm, place+1, pagesOf(chain)[:place+1]...)

			image = loaded(t, 13, broken{"", ofKind(page.Leaf), 0}.applied(chain, behind)...).Image()
			image[1024*chain[place].number+50] ^= 1
			d, _ = disk.Load(image)
			ends(t, "a torn page ahead of a leaf", d, 6, 4000, api.ErrPoolForm, place+1, pagesOf(chain)[:place]...)
		}
	}
}

// TestAWrongPageThatLeadsOutOfTheDisk: what is wrong with a page comes ahead of what it leads to.
func TestAWrongPageThatLeadsOutOfTheDisk(t *testing.T) {
	chain := sheets(mixed(3000, 27), []uint32{6, 3, 5})
	for place := range 2 {
		out := broken{"", withNext(13), 0}.applied(chain, place)
		for _, b := range wrongAnywhere() {
			d := loaded(t, 13, b.applied(out, place)...)
			ends(t, b.name, d, 6, 3000, api.ErrOverForm, place+1, pagesOf(chain)[:place+1]...)
		}
	}
}
