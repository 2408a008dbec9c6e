package page_test

import (
	"bytes"
	"encoding/binary"
	"fmt"
	"testing"

	"codicil/api"
	"codicil/page"
)

// sector is a state by the chapter's words, whether it may be or not.
func sector(m api.Meta) []byte {
	b := make([]byte, 128)
	copy(b, "CMET")
	binary.LittleEndian.PutUint64(b[4:], m.Generation)
	binary.LittleEndian.PutUint32(b[12:], m.Root)
	binary.LittleEndian.PutUint32(b[16:], m.Free)
	binary.LittleEndian.PutUint32(b[20:], m.Pages)
	binary.LittleEndian.PutUint64(b[24:], m.Keys)
	return summed(b)
}

func put(t *testing.T, m api.Meta) []byte {
	t.Helper()
	b, err := page.PutMeta(m)
	if err != api.OK || len(b) != 128 {
		t.Fatalf("PutMeta(%+v) tells %d bytes and %v", m, len(b), err)
	}
	return b
}

func gets(t *testing.T, b []byte, want api.Meta) {
	t.Helper()
	if m, err := page.GetMeta(b); err != api.OK || m != want {
		t.Errorf("GetMeta tells %+v and %v, not %+v", m, err, want)
	}
}

func refusesGet(t *testing.T, what string, b []byte) {
	t.Helper()
	if m, err := page.GetMeta(b); err != api.ErrPageForm || m != (api.Meta{}) {
		t.Errorf("%s: GetMeta tells %+v and %v", what, m, err)
	}
}

// is looks whether m is taken as a state, by PutMeta and by GetMeta.
func is(t *testing.T, m api.Meta) {
	t.Helper()
	b, err := page.PutMeta(m)
	if err != api.OK || !bytes.Equal(b, sector(m)) {
		t.Errorf("PutMeta(%+v) tells %v, or another sector", m, err)
	}
	gets(t, sector(m), m)
}

func isNone(t *testing.T, m api.Meta) {
	t.Helper()
	if b, err := page.PutMeta(m); err != api.ErrPageForm || len(b) != 0 {
		t.Errorf("PutMeta(%+v) tells %d bytes and %v", m, len(b), err)
	}
	refusesGet(t, fmt.Sprintf("%+v with a right checksum", m), sector(m))
}

func TestExampleOfStates(t *testing.T) {
	m := api.Meta{Generation: 1, Pages: 2}
	b := put(t, m)
	want := make([]byte, 128)
	copy(want, []byte{'C', 'M', 'E', 'T', 1, 0, 0, 0, 0, 0, 0, 0, 0, 0, 0, 0, 0, 0, 0, 0, 2})
	if !bytes.Equal(b, summed(want)) {
		t.Errorf("another sector: % x", b)
	}
	noughts := make([]byte, 1024)
	aPage := append(bytes.Clone(b), make([]byte, 896)...)
	isBest(t, noughts, aPage, m)
	noBest(t, aPage, noughts, api.ErrCommitCorrupt)
	noBest(t, noughts, noughts, api.ErrCommitNone)
}

func TestEachFieldHasItsPlace(t *testing.T) {
	m := api.Meta{Generation: 0x0102030405060708, Root: 0x1112, Free: 0x2122, Pages: 0x3132, Keys: 0x0807060504030201}
	want := make([]byte, 128)
	copy(want, "CMET\x08\x07\x06\x05\x04\x03\x02\x01\x12\x11\x00\x00\x22\x21\x00\x00\x32\x31\x00\x00\x01\x02\x03\x04\x05\x06\x07\x08")
	if b := put(t, m); !bytes.Equal(b, summed(want)) {
		t.Errorf("another sector: % x", b)
	}
	gets(t, want, m)
}

func TestBoundsOfGeneration(t *testing.T) {
	for _, n := range []uint64{1, 2, 3, 255, 256, 1<<32 - 1, 1 << 32, 1<<62 - 1, 1 << 62} {
		is(t, api.Meta{Generation: n, Pages: 2})
		is(t, api.Meta{Generation: n, Root: 2, Free: 3, Pages: 4, Keys: 1})
	}
	for _, n := range []uint64{0, 1<<62 + 1, 1 << 63, 1<<63 + 1, 1<<64 - 1} {
		isNone(t, api.Meta{Generation: n, Pages: 2})
		isNone(t, api.Meta{Generation: n, Root: 2, Free: 3, Pages: 4, Keys: 1})
	}
}

func TestBoundsOfPages(t *testing.T) {
	for _, n := range []uint32{2, 3, 255, 256, 16383, 16384} {
		is(t, api.Meta{Generation: 1, Pages: n})
	}
	for _, n := range []uint32{0, 1, 16385, 16386, 32768, 65536 + 2, 1 << 31, greatest} {
		isNone(t, api.Meta{Generation: 1, Pages: n})
		isNone(t, api.Meta{Generation: 1, Pages: n, Free: 2})
		isNone(t, api.Meta{Generation: 1, Pages: n, Root: 2, Keys: 1})
	}
	isNone(t, api.Meta{})
}

func TestBoundsOfRootAndFree(t *testing.T) {
	for _, pages := range []uint32{3, 4, 100, 16384} {
		for _, n := range []uint32{2, pages - 1} {
			is(t, api.Meta{Generation: 1, Root: n, Pages: pages, Keys: 1})
			is(t, api.Meta{Generation: 1, Free: n, Pages: pages})
			isNone(t, api.Meta{Generation: 1, Root: n, Free: n, Pages: pages, Keys: 1})
		}
		for _, n := range []uint32{1, pages, pages + 1, 16384, 1<<31 + 2, greatest} {
			isNone(t, api.Meta{Generation: 1, Root: n, Pages: pages, Keys: 1})
			isNone(t, api.Meta{Generation: 1, Free: n, Pages: pages})
		}
	}
	for _, n := range []uint32{1, 2, 3} {
		isNone(t, api.Meta{Generation: 1, Root: n, Pages: 2, Keys: 1})
		isNone(t, api.Meta{Generation: 1, Free: n, Pages: 2})
	}
	is(t, api.Meta{Generation: 1, Root: 2, Free: 3, Pages: 4, Keys: 1})
	is(t, api.Meta{Generation: 1, Root: 3, Free: 2, Pages: 4, Keys: 1})
	is(t, api.Meta{Generation: 1, Root: 16383, Free: 16382, Pages: 16384, Keys: 1})
	isNone(t, api.Meta{Generation: 1, Root: 3, Free: 4, Pages: 4, Keys: 1})
	isNone(t, api.Meta{Generation: 1, Root: 4, Free: 3, Pages: 4, Keys: 1})
}

func TestBoundsOfKeys(t *testing.T) {
	for _, n := range []uint64{1, 2, 256, 1 << 32, 1<<62 - 1, 1 << 62} {
		is(t, api.Meta{Generation: 1, Root: 2, Pages: 3, Keys: n})
		isNone(t, api.Meta{Generation: 1, Pages: 3, Keys: n})
		isNone(t, api.Meta{Generation: 1, Free: 2, Pages: 3, Keys: n})
	}
	for _, n := range []uint64{0, 1<<62 + 1, 1 << 63, 1<<64 - 1} {
		isNone(t, api.Meta{Generation: 1, Root: 2, Pages: 3, Keys: n})
	}
	for _, n := range []uint64{1<<62 + 1, 1 << 63, 1<<64 - 1} {
		isNone(t, api.Meta{Generation: 1, Pages: 3, Keys: n})
	}
	is(t, api.Meta{Generation: 1, Pages: 3})
	is(t, api.Meta{Generation: 1, Free: 2, Pages: 3})
}

// allowed says the chapter's sentence over, one bound behind the other.
func allowed(m api.Meta) bool {
	const most = 4611686018427387904
	if m.Generation == 0 || m.Generation > most || m.Keys > most {
		return false
	}
	if m.Pages < 2 || m.Pages > 16384 {
		return false
	}
	for _, at := range []uint32{m.Root, m.Free} {
		if at == 1 || at >= m.Pages {
			return false
		}
	}
	if m.Root != 0 && m.Root == m.Free {
		return false
	}
	if m.Root == 0 {
		return m.Keys == 0
	}
	return m.Keys != 0
}

func TestAllEdgesOfStates(t *testing.T) {
	taken := 0
	for _, generation := range []uint64{0, 1, 2, 1 << 62, 1<<62 + 1, 1<<64 - 1} {
		for _, pages := range []uint32{0, 1, 2, 3, 4, 5, 16384, 16385, greatest} {
			places := []uint32{0, 1, 2, 3, 4, pages - 1, pages, pages + 1, greatest}
			for at := range len(places) * len(places) {
				for _, keys := range []uint64{0, 1, 1 << 62, 1<<62 + 1, 1<<64 - 1} {
					m := api.Meta{Generation: generation, Root: places[at/len(places)], Free: places[at%len(places)], Pages: pages, Keys: keys}
					if allowed(m) {
						taken++
						is(t, m)
					} else {
						isNone(t, m)
					}
				}
			}
		}
	}
	if taken < 200 {
		t.Errorf("only %d may be: they tell little", taken)
	}
}

var someStates = []api.Meta{
	{Generation: 1, Pages: 2},
	{Generation: 2, Root: 3, Pages: 5, Keys: 1},
	{Generation: 77, Root: 300, Free: 299, Pages: 301, Keys: 4000},
	{Generation: 1 << 62, Root: 16383, Free: 16382, Pages: 16384, Keys: 1 << 62},
}

func TestGetMetaOfOtherLengths(t *testing.T) {
	refusesGet(t, "nil", nil)
	refusesGet(t, "no bytes", []byte{})
	for _, m := range someStates {
		whole := put(t, m)
		for n := range whole {
			refusesGet(t, "a sector's beginning", whole[:n])
			refusesGet(t, "a sector's end", whole[n+1:])
		}
		for _, more := range []int{1, 127, 128, 896, 1000, 1<<16 - 128} {
			gets(t, append(bytes.Clone(whole), mixed(more, 8)...), m)
			gets(t, append(bytes.Clone(whole), make([]byte, more)...), m)
		}
	}
	for _, n := range []int{36, 64, 127, 129, 1024} {
		b := make([]byte, n)
		copy(b, "CMET\x01\x00\x00\x00\x00\x00\x00\x00\x00\x00\x00\x00\x00\x00\x00\x00\x02")
		refusesGet(t, "another length with a checksum at its end", summed(b))
	}
}

func TestEachByteOfAStateThatIsAnotherIsTold(t *testing.T) {
	for _, m := range someStates {
		whole := put(t, m)
		for at := range whole {
			for change := 1; change < 256; change++ {
				b := bytes.Clone(whole)
				b[at] ^= byte(change)
				refusesGet(t, "a byte that is another", b)
			}
		}
		gets(t, whole, m)
	}
}

func TestRightSumsDoNotMakeAState(t *testing.T) {
	for _, m := range someStates {
		for at := 32; at < 124; at++ {
			for _, change := range []byte{1, 0x80, 0xff} {
				b := sector(m)
				b[at] ^= change
				refusesGet(t, "no nought", summed(b))
			}
		}
		for at := range 4 {
			for change := 1; change < 256; change++ {
				b := sector(m)
				b[at] ^= byte(change)
				refusesGet(t, "the mark", summed(b))
			}
		}
	}
	for _, b := range [][]byte{make([]byte, 128), full(128, 0xff), summed(make([]byte, 128)), summed(full(128, 0xff)), mixed(128, 9), summed(mixed(128, 9))} {
		refusesGet(t, "no state", b)
	}
	sealedPage := sealed(t, page.Leaf, 0, sector(someStates[0]))
	refusesGet(t, "a page with a state in it", sealedPage)
}
