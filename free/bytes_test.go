package free_test

import (
	"bytes"
	"encoding/binary"
	"math"
	"math/rand"
	"slices"
	"testing"

	"codicil/api"
	"codicil/free"
)

// from are so many pages from one on.
func from(first uint32, count int) []uint32 {
	var out []uint32
	for at := range uint32(count) {
		out = append(out, first+at)
	}
	return out
}

// laid are numbers as bytes, the lowest first.
func laid(numbers ...uint32) []byte {
	var out []byte
	for _, n := range numbers {
		out = binary.LittleEndian.AppendUint32(out, n)
	}
	return out
}

// payload is what a page has: the next page, and pages behind it.
func payload(next uint32, pages ...uint32) []byte { return append(laid(next), laid(pages...)...) }

func encodes(t *testing.T, pages, at []uint32, want ...[]byte) {
	t.Helper()
	got, err := free.Encode(pages, at)
	if err != api.OK || !slices.EqualFunc(got, want, bytes.Equal) {
		t.Errorf("Encode(%d, %d): %x, %v, not %x", pages, at, got, err, want)
	}
}

func refusesEncode(t *testing.T, pages, at []uint32) {
	t.Helper()
	if got, err := free.Encode(pages, at); err != api.ErrFreeForm || len(got) != 0 {
		t.Errorf("Encode(%d, %d): %d payloads, %v", pages, at, len(got), err)
	}
}

func decodes(t *testing.T, b []byte, next uint32, pages ...uint32) {
	t.Helper()
	gotNext, got, err := free.Decode(b)
	if err != api.OK || gotNext != next || !slices.Equal(got, pages) {
		t.Errorf("Decode(%x): %d, %d, %v, not %d, %d", b, gotNext, got, err, next, pages)
	}
}

func refusesDecode(t *testing.T, b []byte) {
	t.Helper()
	if next, pages, err := free.Decode(b); err != api.ErrFreeForm || next != 0 || len(pages) != 0 {
		t.Errorf("Decode(%x): %d, %d, %v", b, next, pages, err)
	}
}

func TestSecondExample(t *testing.T) {
	if free.Need(251) != 1 || free.Need(252) != 2 || free.Need(0) != 0 {
		t.Error("Need")
	}
	encodes(t, []uint32{3, 8}, []uint32{20}, []byte{0, 0, 0, 0, 3, 0, 0, 0, 8, 0, 0, 0})
}

func TestNeed(t *testing.T) {
	for _, at := range [][2]int{
		{math.MinInt, 0}, {math.MinInt + 1, 0}, {-252, 0}, {-251, 0}, {-250, 0}, {-1, 0}, {0, 0},
		{1, 1}, {2, 1}, {250, 1}, {251, 1}, {252, 2}, {501, 2}, {502, 2}, {503, 3}, {753, 3}, {754, 4}, {16382, 66},
		{math.MaxInt32, 8555712}, {251 << 40, 1 << 40}, {251<<40 + 1, 1<<40 + 1},
		{math.MaxInt, math.MaxInt/251 + 1}, {math.MaxInt - 1, math.MaxInt/251 + 1},
	} {
		if got := free.Need(at[0]); got != at[1] {
			t.Errorf("Need(%d): %d, not %d", at[0], got, at[1])
		}
	}
	need := 0
	for pages := range 20000 {
		if pages%251 == 1 {
			need++
		}
		if got := free.Need(pages); got != need {
			t.Fatalf("Need(%d): %d, not %d", pages, got, need)
		}
	}
}

func TestEncodeOfNone(t *testing.T) {
	for _, none := range [][]uint32{nil, {}} {
		encodes(t, none, nil)
		encodes(t, none, []uint32{})
		encodes(t, none, []uint32{2}, payload(0))
		encodes(t, none, []uint32{16383}, payload(0))
		refusesEncode(t, none, []uint32{2, 3})
		refusesEncode(t, none, []uint32{2, 3, 4})
	}
}

func TestEncodeOfOne(t *testing.T) {
	for _, page := range []uint32{2, 3, 255, 256, 0x1234, 16383} {
		encodes(t, []uint32{page}, []uint32{9}, payload(0, page))
		encodes(t, []uint32{page}, []uint32{9, 16383}, payload(16383, page), payload(0))
		refusesEncode(t, []uint32{page}, nil)
		refusesEncode(t, []uint32{page}, []uint32{})
		refusesEncode(t, []uint32{page}, []uint32{9, 10, 11})
		refusesEncode(t, []uint32{page}, []uint32{9, 10, 11, 12})
	}
}

func TestBytesStandLowestFirst(t *testing.T) {
	encodes(t, []uint32{0x0102, 0x0304, 0x3fff}, []uint32{7, 0x0506},
		[]byte{6, 5, 0, 0, 2, 1, 0, 0, 4, 3, 0, 0, 0xff, 0x3f, 0, 0}, []byte{0, 0, 0, 0})
	decodes(t, []byte{6, 5, 0, 0, 2, 1, 0, 0, 4, 3, 0, 0, 0xff, 0x3f, 0, 0}, 0x0506, 0x0102, 0x0304, 0x3fff)
}

func TestEncodeOfFullPages(t *testing.T) {
	most := from(2, 251)
	encodes(t, from(2, 250), []uint32{300}, payload(0, from(2, 250)...))
	encodes(t, most, []uint32{300}, payload(0, most...))
	encodes(t, most, []uint32{300, 4}, payload(4, most...), payload(0))
	encodes(t, from(2, 252), []uint32{300, 4}, payload(4, most...), payload(0, 253))
	encodes(t, from(2, 252), []uint32{300, 4, 16000}, payload(4, most...), payload(16000, 253), payload(0))
	encodes(t, from(2, 502), []uint32{300, 4}, payload(4, most...), payload(0, from(253, 251)...))
	encodes(t, from(2, 502), []uint32{300, 4, 5}, payload(4, most...), payload(5, from(253, 251)...), payload(0))
	encodes(t, from(2, 503), []uint32{300, 4, 5}, payload(4, most...), payload(5, from(253, 251)...), payload(0, 504))
}

// TestEncodeWithTooFewAndTooMany counts at on both sides of what may be.
func TestEncodeWithTooFewAndTooMany(t *testing.T) {
	for _, count := range []int{0, 1, 2, 250, 251, 252, 501, 502, 503, 1004, 16382} {
		pages, need := from(2, count), free.Need(count)
		for length := range need + 5 {
			at := from(100, length)
			if length != need && length != need+1 {
				refusesEncode(t, pages, at)
				continue
			}
			if got, err := free.Encode(pages, at); err != api.OK || len(got) != length {
				t.Errorf("%d pages at %d: %d, %v", count, length, len(got), err)
			}
		}
	}
}

func TestEncodeOfPagesThatDoNotRise(t *testing.T) {
	for _, pages := range [][]uint32{{3, 3}, {4, 3}, {2, 4, 4}, {2, 4, 3}, {5, 4, 6}, {5, 5, 6}, {16383, 2}, {16383, 16383}, {2, 2}} {
		refusesEncode(t, pages, []uint32{20})
		refusesEncode(t, pages, []uint32{20, 21})
	}
	// Between two pages of the file, and at the very end.
	for _, place := range []int{1, 100, 250, 251, 252, 501} {
		for _, wrong := range []uint32{0, 1, 50} {
			pages := from(100, 502)
			pages[place] = pages[place-1] - wrong
			refusesEncode(t, pages, []uint32{20, 21})
			refusesEncode(t, pages, []uint32{20, 21, 22})
		}
	}
}

func TestEncodeOfPagesOutOfRange(t *testing.T) {
	for _, pages := range [][]uint32{{0}, {1}, {0, 1}, {0, 2}, {1, 2}, {1, 2, 3}, {16384}, {2, 16384}, {16383, 16384}, {2, 3, greatest}, {greatest}, {5, 65536 + 9}, {1 << 31}} {
		refusesEncode(t, pages, []uint32{20})
		refusesEncode(t, pages, []uint32{20, 21})
	}
	refusesEncode(t, from(1, 252), []uint32{20, 21})
	refusesEncode(t, from(16384-502, 503), []uint32{20, 21, 22})
	refusesEncode(t, from(0, 16384), from(2, 66))
	encodes(t, []uint32{2, 16383}, []uint32{20}, payload(0, 2, 16383))
}

func TestEncodeAtPagesOutOfRange(t *testing.T) {
	for _, wrong := range []uint32{0, 1, 16384, 16385, 65536 + 9, 1 << 31, greatest} {
		refusesEncode(t, nil, []uint32{wrong})
		refusesEncode(t, []uint32{3, 8}, []uint32{wrong})
		refusesEncode(t, []uint32{3, 8}, []uint32{20, wrong})
		refusesEncode(t, []uint32{3, 8}, []uint32{wrong, 20})
		for place := range 3 {
			at := []uint32{20, 21, 22}
			at[place] = wrong
			refusesEncode(t, from(2, 502), at)
			refusesEncode(t, from(2, 503), at)
		}
	}
}

// TestEncodeAtPagesInAnyOrder: of at the chapter asks neither that they rise, nor that each is there once, nor that the list has none of them.
func TestEncodeAtPagesInAnyOrder(t *testing.T) {
	encodes(t, []uint32{3, 8}, []uint32{21, 20}, payload(20, 3, 8), payload(0))
	encodes(t, []uint32{3, 8}, []uint32{20, 20}, payload(20, 3, 8), payload(0))
	encodes(t, []uint32{3, 8}, []uint32{8, 3}, payload(3, 3, 8), payload(0))
	encodes(t, []uint32{3, 8}, []uint32{16383, 2}, payload(2, 3, 8), payload(0))
}

func TestDecodeOfEveryLength(t *testing.T) {
	all := payload(7, from(2, 300)...)
	for length := range len(all) + 1 {
		b := all[:length]
		if length < 4 || length > 1008 || length%4 != 0 {
			refusesDecode(t, b)
			continue
		}
		decodes(t, b, 7, from(2, length/4-1)...)
	}
	refusesDecode(t, nil)
	refusesDecode(t, []byte{})
	refusesDecode(t, make([]byte, 1024))
	refusesDecode(t, payload(0, from(2, 16382)...))
}

func TestDecodeOfNextPages(t *testing.T) {
	for _, next := range []uint32{0, 2, 3, 255, 256, 16382, 16383} {
		decodes(t, payload(next), next)
		decodes(t, payload(next, 5, 9), next, 5, 9)
		decodes(t, payload(next, from(2, 251)...), next, from(2, 251)...)
	}
	for _, next := range []uint32{1, 16384, 16385, 65536, 65536 + 9, 1 << 24, 1 << 31, greatest} {
		refusesDecode(t, payload(next))
		refusesDecode(t, payload(next, 5, 9))
		refusesDecode(t, payload(next, from(2, 251)...))
	}
}

func TestDecodeOfPagesThatDoNotRise(t *testing.T) {
	for _, next := range []uint32{0, 7} {
		for _, pages := range [][]uint32{{3, 3}, {4, 3}, {2, 4, 4}, {2, 4, 3}, {5, 4, 6}, {5, 5, 6}, {16383, 2}, {16383, 16383}, {2, 2}, {256, 1<<8 - 1}} {
			refusesDecode(t, payload(next, pages...))
		}
		for _, place := range []int{1, 100, 249, 250} {
			for _, wrong := range []uint32{0, 1, 50} {
				pages := from(100, 251)
				pages[place] = pages[place-1] - wrong
				refusesDecode(t, payload(next, pages...))
			}
		}
	}
}

func TestDecodeOfPagesOutOfRange(t *testing.T) {
	for _, next := range []uint32{0, 7} {
		for _, pages := range [][]uint32{{0}, {1}, {0, 1}, {0, 2}, {1, 2}, {1, 2, 3}, {16384}, {2, 16384}, {16383, 16384}, {2, 3, greatest}, {greatest}, {5, 65536 + 9}, {1 << 24}, {1 << 31}} {
			refusesDecode(t, payload(next, pages...))
		}
		decodes(t, payload(next, 2, 16383), next, 2, 16383)
	}
}

// TestDecodeOfEncode goes from page to page as one would in a file, by the next ones.
func TestDecodeOfEncode(t *testing.T) {
	r := rand.New(rand.NewSource(3))
	for _, count := range []int{0, 1, 2, 250, 251, 252, 502, 503, 1000, 5000, 16382} {
		for more := range 2 {
			var pages, at []uint32
			for _, n := range r.Perm(16382)[:count] {
				pages = append(pages, uint32(n+2))
			}
			slices.Sort(pages)
			for _, n := range r.Perm(16382)[:free.Need(count)+more] {
				at = append(at, uint32(n+2))
			}
			all, err := free.Encode(pages, at)
			if err != api.OK {
				t.Fatal(err)
			}
			file := map[uint32][]byte{}
			for i, b := range all {
				file[at[i]] = b
			}
			var got, went []uint32
			for next := append(at, 0)[0]; next != 0 && len(went) <= len(at); {
				went = append(went, next)
				var part []uint32
				if next, part, err = free.Decode(file[next]); err != api.OK {
					t.Fatal(err)
				}
				got = append(got, part...)
			}
			if !slices.Equal(got, pages) || !slices.Equal(went, at) {
				t.Errorf("%d pages and %d more: %d came back by way of %d", count, more, len(got), went)
			}
		}
	}
}

// plainDecode is Decode by the chapter's words.
func plainDecode(b []byte) (uint32, []uint32, api.Errno) {
	count := len(b)/4 - 1
	if len(b) != 4+4*count || count < 0 || count > 251 {
		return 0, nil, api.ErrFreeForm
	}
	next := binary.LittleEndian.Uint32(b)
	if next != 0 && (next < 2 || next > 16383) {
		return 0, nil, api.ErrFreeForm
	}
	last := uint32(1)
	var out []uint32
	for at := range count {
		page := binary.LittleEndian.Uint32(b[4+4*at:])
		if page <= last || page > 16383 {
			return 0, nil, api.ErrFreeForm
		}
		out = append(out, page)
		last = page
	}
	return next, out, api.OK
}

// TestDecodeOfAnyBytes: right payloads with a byte changed, cut or added; what is taken is what Encode gives.
func TestDecodeOfAnyBytes(t *testing.T) {
	r := rand.New(rand.NewSource(4))
	right, wrong := 0, 0
	for range 20000 {
		pages := []uint32{}
		for page := uint32(r.Intn(4)); len(pages) < r.Intn(20); page += uint32(1 + r.Intn(1500)) {
			pages = append(pages, page)
		}
		b := payload(uint32(r.Intn(5)), pages...)
		switch r.Intn(5) {
		case 0:
			b = b[:r.Intn(len(b)+1)]
		case 1:
			b = append(b, make([]byte, r.Intn(5))...)
		case 2, 3:
			b[r.Intn(len(b))] ^= 1 << r.Intn(8)
		}
		next, got, err := free.Decode(b)
		wantNext, want, wantErr := plainDecode(b)
		if next != wantNext || !slices.Equal(got, want) || err != wantErr {
			t.Fatalf("Decode(%x): %d, %d, %v, not %d, %d, %v", b, next, got, err, wantNext, want, wantErr)
		}
		if err != api.OK {
			wrong++
			continue
		}
		right++
		encodesAgain(t, next, got, b)
	}
	if right < 2000 || wrong < 2000 {
		t.Errorf("%d right ones, %d wrong ones", right, wrong)
	}
}

// encodesAgain looks whether Encode gives the payload of which these were told. It gives none with a next page and no pages.
func encodesAgain(t *testing.T, next uint32, pages []uint32, b []byte) {
	t.Helper()
	at := []uint32{9}
	if next != 0 {
		at = append(at, next)
	}
	if next != 0 && len(pages) == 0 {
		return
	}
	if again, err := free.Encode(pages, at); err != api.OK || !bytes.Equal(again[0], b) {
		t.Fatalf("Encode(%d, %d): %x, %v, not %x", pages, at, again, err, b)
	}
}
