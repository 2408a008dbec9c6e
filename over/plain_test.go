package over_test

import (
	"bytes"
	"encoding/binary"
	"math/rand"
	"slices"
	"testing"

	"codicil/api"
	"codicil/disk"
	"codicil/over"
	"codicil/page"
	"codicil/pool"
)

// plainRead is Read by the chapter's words: page by page, each with what Encode would give it.
func plainRead(p *pool.Pool, first, size uint32) ([]byte, []uint32, api.Errno) {
	if size < 65 || size > 8192 {
		return nil, nil, api.ErrOverForm
	}
	var value []byte
	var pages []uint32
	need := plainNeed(int(size))
	for number := first; len(pages) < need; {
		kind, b, err := p.Read(number)
		if err != api.OK {
			return nil, nil, err
		}
		last := len(pages) == need-1
		length := 4 + 1004
		if last {
			length = 4 + int(size) - 1004*(need-1)
		}
		if kind != page.Over || len(b) != length {
			return nil, nil, api.ErrOverForm
		}
		next := binary.LittleEndian.Uint32(b)
		if last && next != 0 || !last && (next < 2 || next > 16383) {
			return nil, nil, api.ErrOverForm
		}
		value, pages = append(value, b[4:]...), append(pages, number)
		number = next
	}
	return value, pages, api.OK
}

// pair is two disks to which the same happens, each with a pool of its own.
type pair struct {
	disk, plainDisk *disk.Disk
	pool, plainPool *pool.Pool
}

func newPair(t *testing.T, image []byte, most int) pair {
	t.Helper()
	one, _ := disk.Load(image)
	two, err := disk.Load(image)
	if err != api.OK {
		t.Fatal(err)
	}
	return pair{one, two, made(t, one, most), made(t, two, most)}
}

// readsAlike says whether Read and plainRead tell the same, with the same operations, and leave the same pages at hand.
func (p pair) readsAlike(first, size uint32) bool {
	value, pages, err := over.Read(p.pool, first, size)
	wantValue, wantPages, want := plainRead(p.plainPool, first, size)
	if err != want || !bytes.Equal(value, wantValue) || !slices.Equal(pages, wantPages) || p.disk.Counts() != p.plainDisk.Counts() {
		return false
	}
	for number := range uint32(p.disk.Pages()) {
		if p.pool.Has(number) != p.plainPool.Has(number) {
			return false
		}
	}
	return true
}

func (p pair) write(number uint32, kind uint8, b []byte) {
	p.pool.Write(number, kind, b)
	p.plainPool.Write(number, kind, b)
}

// TestAllSmallChains goes through all that three pages may lead to (pages 0 and 1 have what could end a chain), full or not, and through all sizes that they may have.
func TestAllSmallChains(t *testing.T) {
	full, some := mixed(1004, 61), mixed(100, 62)
	end := func(number uint32) sheet { return sheet{number, page.Over, payload(0, some)} }
	var kinds []func(number uint32) sheet
	for _, next := range []uint32{0, 1, 2, 3, 4, 5, 16384} {
		for _, part := range [][]byte{full, some} {
			kinds = append(kinds, func(number uint32) sheet { return sheet{number, page.Over, payload(next, part)} })
		}
	}
	for _, a := range kinds {
		for _, b := range kinds {
			for _, c := range kinds {
				image := loaded(t, 5, end(0), end(1), a(2), b(3), c(4)).Image()
				p := newPair(t, image, 2)
				for _, size := range []uint32{100, 1004, 1104, 2008, 2108, 3012, 3112, 8192} {
					if !p.readsAlike(2, size) {
						t.Fatalf("another answer: size %d, %x, %x, %x", size, a(2).payload[:4], b(3).payload[:4], c(4).payload[:4])
					}
				}
			}
		}
	}
}

// anyPage draws a page: often a right one that leads to some other, else one that is wrong in some way.
func anyPage(r *rand.Rand, pages int) (uint8, []byte) {
	kind, length, next := page.Over, 1004, uint32(r.Intn(pages))
	switch r.Intn(12) {
	case 0:
		kind = uint8(1 + r.Intn(4))
	case 1:
		length = 1000 + r.Intn(5)
	case 2:
		next = []uint32{uint32(pages), 16383, 16384, greatest, 0, 1, 1 << 16}[r.Intn(7)]
	case 3:
		return kind, mixed(r.Intn(5), r.Uint32())
	case 4, 5, 6:
		length, next = 65+r.Intn(3), 0
	case 7:
		length = 65 + r.Intn(3)
	}
	return kind, payload(next, mixed(length, r.Uint32()))
}

// anySize draws a size that may be that of a chain of anyPage's.
func anySize(r *rand.Rand) uint32 {
	if r.Intn(20) == 0 {
		return []uint32{0, 64, 8193, greatest}[r.Intn(4)]
	}
	size := 1004 * r.Intn(9)
	if size == 0 || r.Intn(4) > 0 {
		size += 65 + r.Intn(3)
	}
	return uint32(size)
}

// TestAnyDisks: pages of any kind that are written, reads, faults and trips, drawn.
func TestAnyDisks(t *testing.T) {
	for seed := range 150 {
		r := rand.New(rand.NewSource(int64(seed)))
		pages := 3 + r.Intn(8)
		p := newPair(t, make([]byte, 1024*pages), 1+r.Intn(pages+2))
		for number := range uint32(pages) {
			kind, b := anyPage(r, pages)
			p.write(number, kind, b)
		}
		for range 400 {
			switch r.Intn(12) {
			case 0, 1:
				kind, b := anyPage(r, pages)
				p.write(uint32(r.Intn(pages)), kind, b)
			case 2:
				n := r.Intn(4)
				p.disk.Fail(readKind, n)
				p.plainDisk.Fail(readKind, n)
			case 3:
				n := r.Intn(6)
				p.disk.Trip(n)
				p.plainDisk.Trip(n)
			case 4, 5:
				keep := make([]bool, 8*r.Intn(9))
				for at := range keep {
					keep[at] = r.Intn(9) > 0
				}
				p.disk.Cut(keep...)
				p.plainDisk.Cut(keep...)
			default:
				if !p.readsAlike(uint32(r.Intn(pages+1)), anySize(r)) {
					t.Fatalf("another answer: seed %d", seed)
				}
			}
		}
	}
}

// TestAnyEncode holds what Encode tells of any sizes and pages against the chapter's words.
func TestAnyEncode(t *testing.T) {
	r := rand.New(rand.NewSource(63))
	for range 5000 {
		size := r.Intn(9200)
		if r.Intn(10) == 0 {
			size = r.Intn(80)
		}
		need, at := plainNeed(size), []uint32(nil)
		for range max(0, need+r.Intn(3)-r.Intn(3)) {
			at = append(at, uint32(2+r.Intn(16382)))
		}
		if len(at) > 0 && r.Intn(5) == 0 {
			at[r.Intn(len(at))] = []uint32{0, 1, 2, 16383, 16384, greatest}[r.Intn(6)]
		}
		right := len(at) > 0 && len(at) == need
		for _, page := range at {
			right = right && page >= 2 && page <= 16383
		}
		if value := mixed(size, r.Uint32()); right {
			encodes(t, value, at)
		} else {
			refusesEncode(t, value, at)
		}
	}
}
