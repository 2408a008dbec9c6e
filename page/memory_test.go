package page_test

import (
	"bytes"
	"testing"

	"codicil/api"
	"codicil/page"
)

// withRoom is b with other bytes in the room behind it.
func withRoom(b []byte, room []byte) []byte {
	out := append(bytes.Clone(b), room...)
	return out[:len(b):len(out)]
}

// spoil writes into all memory that a list has, also into the room behind it.
func spoil(b []byte) {
	for at := range b[:cap(b)] {
		b[:cap(b)][at] ^= 0x5a
	}
}

// stays looks whether what is handed in is as it was behind a call, also behind its length.
func stays(t *testing.T, b []byte, call func()) {
	t.Helper()
	before := bytes.Clone(b[:cap(b)])
	call()
	if !bytes.Equal(b[:cap(b)], before) {
		t.Error("what was handed in has changed")
	}
}

func TestWhatIsHandedInStays(t *testing.T) {
	for _, length := range []int{0, 1, 500, 1008, 1009} {
		for _, kind := range []uint8{1, 5} {
			payload := withRoom(mixed(length, 1), full(1024, '!'))
			stays(t, payload, func() { page.Seal(kind, 7, payload) })
		}
	}
	whole := withRoom(sealed(t, page.Leaf, 7, mixed(500, 2)), full(64, '!'))
	stays(t, whole, func() { page.Open(7, whole); page.Open(8, whole) })
	even, odd := withRoom(inPage(generation(6)), full(64, '!')), withRoom(inPage(generation(5)), full(64, '!'))
	stays(t, even, func() { page.GetMeta(even); page.Best(even, odd); page.Best(odd, even); page.Best(even, even) })
	stays(t, odd, func() { page.GetMeta(odd); page.Best(even, odd); page.Best(odd, even); page.Best(odd, odd) })
}

func TestRoomBehindIsNotRead(t *testing.T) {
	whole := sealed(t, page.Leaf, 7, mixed(1008, 3))
	state := put(t, generation(6))
	for n := range 1024 {
		refusesOpen(t, "a page whose end lies in the room", 7, whole[:n])
	}
	for n := range 128 {
		refusesGet(t, "a state whose end lies in the room", state[:n])
		want := api.ErrCommitCorrupt
		if n < 4 {
			want = api.ErrCommitNone
		}
		noBest(t, state[:n], nil, want)
		noBest(t, nil, state[:n], want)
	}
	opens(t, 7, withRoom(whole, whole), page.Leaf, mixed(1008, 3))
	for _, length := range []int{0, 3, 1007, 1008} {
		short := withRoom(mixed(length, 4), full(1200, '!'))
		if !bytes.Equal(sealed(t, 2, 5, short), laid(2, 0, 5, uint16(length), 0, mixed(length, 4))) {
			t.Error("room behind a payload was read")
		}
	}
}

func TestSealIsNewMemory(t *testing.T) {
	for _, length := range []int{0, 2, 1008} {
		payload := withRoom(mixed(length, 5), full(20, '!'))
		want := laid(3, 0, 7, uint16(length), 0, payload)
		one, two := sealed(t, 3, 7, payload), sealed(t, 3, 7, payload)
		spoil(one)
		if !bytes.Equal(payload, mixed(length, 5)) || !bytes.Equal(two, want) {
			t.Error("what came out shares memory")
		}
		spoil(payload)
		if !bytes.Equal(two, want) {
			t.Error("what was handed in is kept in what came out")
		}
		spoil(payload)
		if !bytes.Equal(sealed(t, 3, 7, payload), want) {
			t.Error("what came out, changed, changes a later answer")
		}
	}
}

func TestOpenIsNewMemory(t *testing.T) {
	for _, length := range []int{0, 1, 2, 600, 1007, 1008} {
		want := mixed(length, 6)
		whole := sealed(t, page.Branch, 7, want)
		before := bytes.Clone(whole)
		_, one, _ := page.Open(7, whole)
		_, two, _ := page.Open(7, whole)
		spoil(one)
		if !bytes.Equal(whole, before) || !bytes.Equal(two, want) {
			t.Error("what came out shares memory")
		}
		_ = append(two, full(50, 'x')...)
		if !bytes.Equal(whole, before) {
			t.Error("room behind what came out is the page's")
		}
		spoil(whole)
		if !bytes.Equal(two, want) {
			t.Error("what was handed in is kept in what came out")
		}
		opens(t, 7, before, page.Branch, want)
	}
}

func TestStatesAreNewMemory(t *testing.T) {
	m := generation(6)
	one, two := put(t, m), put(t, m)
	spoil(one)
	if !bytes.Equal(two, sector(m)) {
		t.Error("two sectors share memory")
	}
	gets(t, two, m)
	got, _ := page.GetMeta(two)
	best, _ := page.Best(two, nil)
	spoil(two)
	if got != m || best != m {
		t.Error("a state changes with the bytes it came of")
	}
	got.Root, best.Generation = 99, 99
	gets(t, put(t, m), m)
	isBest(t, put(t, m), nil, m)
}

func TestSameBytesAsBothPages(t *testing.T) {
	even, odd := inPage(generation(6)), inPage(generation(5))
	isBest(t, even, even, generation(6))
	isBest(t, odd, odd, generation(5))
}
