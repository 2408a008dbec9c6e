package commit_test

import (
	"encoding/binary"
	"math/rand"
	"slices"
	"testing"

	"codicil/api"
	"codicil/commit"
	"codicil/node"
	"codicil/page"
)

// spoil does one thing to a file's bytes, told by chance: what it does may leave it right.
func spoil(r *rand.Rand, image, elder []byte) []byte {
	pages := len(image) / api.PageSize
	at, from := r.Intn(pages), r.Intn(pages)
	here := image[at*api.PageSize:][:api.PageSize]
	switch r.Intn(10) {
	case 0:
		image[r.Intn(len(image))] ^= 1 << r.Intn(8)
	case 1:
		clear(here)
	case 2:
		copy(here, mixed(api.PageSize, r.Uint32()))
	case 3:
		copy(here, elder[at*api.PageSize:])
	case 4:
		copy(here, image[from*api.PageSize:][:api.PageSize])
		reseal(here, uint32(at), here, uint32(from), func(_ uint8, payload []byte) []byte { return payload })
	case 5:
		return image[:max(1, pages-r.Intn(pages))*api.PageSize]
	case 6:
		spoilState(r, image)
	case 7:
		reseal(here, uint32(at), here, uint32(at), func(kind uint8, payload []byte) []byte { return spoilNode(r, kind, payload) })
	case 8:
		reseal(here, uint32(at), here, uint32(at), func(_ uint8, payload []byte) []byte {
			if len(payload) >= 8 {
				binary.LittleEndian.PutUint32(payload[r.Intn(len(payload)/4)*4:], uint32(r.Intn(pages+3)))
			}
			return payload
		})
	default:
		copy(here[r.Intn(8)*api.Sector:], mixed(api.Sector, r.Uint32()))
	}
	return image
}

// reseal gives a page what another one has, changed, with a right checksum.
func reseal(to []byte, number uint32, from []byte, of uint32, change func(kind uint8, payload []byte) []byte) {
	kind, payload, err := page.Open(of, from)
	if err != api.OK {
		return
	}
	if b, err := page.Seal(kind, number, change(kind, payload)); err == api.OK {
		copy(to, b)
	}
}

func spoilState(r *rand.Rand, image []byte) {
	if len(image) < 2*api.PageSize {
		return
	}
	m, err := page.Best(image[:api.PageSize], image[api.PageSize:2*api.PageSize])
	if err != api.OK {
		return
	}
	switch r.Intn(5) {
	case 0:
		m.Generation += uint64(r.Intn(3))
	case 1:
		m.Root = uint32(r.Intn(int(m.Pages)))
	case 2:
		m.Free = uint32(r.Intn(int(m.Pages)))
	case 3:
		m.Pages += uint32(r.Intn(5)) - 2
	default:
		m.Keys += uint64(r.Intn(3)) - 1
	}
	if sector, err := page.PutMeta(m); err == api.OK {
		copy(image[m.Generation%2*api.PageSize:], sector)
	}
}

// spoilNode changes an entry of a node, or lets it go.
func spoilNode(r *rand.Rand, kind uint8, payload []byte) []byte {
	n, err := node.Decode(kind, payload)
	if err != api.OK {
		return payload
	}
	at := r.Intn(len(n.Entries))
	switch e := &n.Entries[at]; r.Intn(3) {
	case 0:
		n.Entries = slices.Delete(n.Entries, at, at+1)
	case 1:
		e.Page = uint32(2 + r.Intn(100))
	default:
		e.Key = append(e.Key, 'k')
	}
	if b, err := node.Encode(n); err == api.OK {
		return b
	}
	return payload
}

// TestAnyBytes: Open answers as the chapter's words say of a file's bytes, and what it opens goes on.
func TestAnyBytes(t *testing.T) {
	seen := map[api.Errno]int{}
	r := rand.New(rand.NewSource(11))
	for _, c := range scenes(t) {
		d, s := c.open(t)
		applies(t, s, api.OK, c.l...)
		newer := d.Image()
		for range 1000 {
			image := slices.Clone(newer)
			for range 1 + r.Intn(3) {
				image = spoil(r, image, c.image)
			}
			seen[looksRight(t, image)]++
		}
	}
	if seen[api.OK] < 500 || seen[api.ErrCommitCorrupt] < 500 || seen[api.ErrCommitNone] < 5 {
		t.Errorf("%v", seen)
	}
}

// looksRight holds Open against the plain reader, and tells what it answered.
func looksRight(t *testing.T, image []byte) api.Errno {
	t.Helper()
	f, want := plainFile(image)
	d := loaded(t, image)
	s, err := commit.Open(d)
	if err != want || (s == nil) != (err != api.OK) {
		t.Fatalf("%v, not %v", err, want)
	}
	if got := d.Counts(); got.Writes != 0 || got.Syncs != 0 {
		t.Errorf("%+v", got)
	}
	if err != api.OK {
		return err
	}
	g := &ground{TB: t, disk: d, store: s, now: f.pairs}
	g.reread()
	g.all()
	if err := g.apply(put("any", mixed(70, 1)), del(numbered(2))); err != api.OK && err != api.ErrFull {
		t.Errorf("%v", err)
	}
	g.all()
	return err
}

// TestNoise: of bytes that never were a file, some with states.
func TestNoise(t *testing.T) {
	r := rand.New(rand.NewSource(12))
	for range 3000 {
		image := []byte(mixed((1+r.Intn(12))*api.PageSize, r.Uint32()))
		pages := uint32(len(image) / api.PageSize)
		if r.Intn(4) > 0 && pages > 2 {
			m := api.Meta{Generation: uint64(1 + r.Intn(9)), Pages: pages}
			if r.Intn(2) == 0 {
				m.Root, m.Keys = 2+r.Uint32()%(pages-2), 1
			}
			if r.Intn(2) == 0 {
				m.Free = 2 + r.Uint32()%(pages-2)
			}
			if sector, err := page.PutMeta(m); err == api.OK {
				copy(image[m.Generation%2*api.PageSize:], sector)
			}
			for number := uint32(2); number < pages; number++ {
				noisePage(r, image[number*api.PageSize:][:api.PageSize], number, pages)
			}
		}
		looksRight(t, image)
	}
}

// noisePage lays down a page with a right checksum, of which little else may be right.
func noisePage(r *rand.Rand, to []byte, number, pages uint32) {
	payload := binary.LittleEndian.AppendUint32(nil, r.Uint32()%(pages+1))
	switch r.Intn(4) {
	case 0:
		payload, _ = node.Encode(api.Node{Leaf: true, Entries: []api.Entry{{Key: []byte(numbered(int(number)))}}})
	case 1:
		payload, _ = node.Encode(api.Node{Entries: []api.Entry{{Page: 2 + r.Uint32()%pages}}})
	case 2:
		payload = binary.LittleEndian.AppendUint32(payload, 2+r.Uint32()%pages)
	}
	b, _ := page.Seal(uint8(1+r.Intn(4)), number, payload)
	copy(to, b)
}
