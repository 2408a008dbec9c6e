package over_test

import (
	"bytes"
	"encoding/binary"
	"math"
	"slices"
	"testing"

	"codicil/api"
	"codicil/over"
	"codicil/page"
)

const greatest = math.MaxUint32

// edges are sizes of values around those at which another page is needed.
var edges = []int{65, 66, 500, 1003, 1004, 1005, 1006, 2007, 2008, 2009, 3012, 3013, 4016, 4017, 5020, 5021, 6024, 6025, 7028, 7029, 8031, 8032, 8033, 8191, 8192}

// tooSmallOrGreat are sizes of values that take no page.
var tooSmallOrGreat = []int{0, 1, 2, 4, 63, 64, 8193, 8194, 9035, 9036, 9037, 10040, 65536 + 70, 1 << 20}

// mixed are n bytes that look like nothing, the same ones for the same seed.
func mixed(n int, seed uint32) []byte {
	out := make([]byte, n)
	state := seed*2654435761 + 12345
	for at := range out {
		state = state*1664525 + 1013904223
		out[at] = byte(state >> 24)
	}
	return out
}

// from are so many pages from one on.
func from(first uint32, count int) []uint32 {
	var out []uint32
	for at := range uint32(count) {
		out = append(out, first+at)
	}
	return out
}

// payload is what a page has: the next page, the lowest byte first, and a part of the value.
func payload(next uint32, part []byte) []byte {
	return append(binary.LittleEndian.AppendUint32(nil, next), part...)
}

// payloads is a value on these pages, by the chapter's words.
func payloads(value []byte, at []uint32) [][]byte {
	var out [][]byte
	for i := range at {
		next := uint32(0)
		if i < len(at)-1 {
			next = at[i+1]
		}
		out = append(out, payload(next, value[1004*i:min(1004*i+1004, len(value))]))
	}
	return out
}

// plainNeed counts pages one by one.
func plainNeed(size int) int {
	if size < 65 || size > 8192 {
		return 0
	}
	need := 0
	for room := 0; room < size; room += 1004 {
		need++
	}
	return need
}

func encodes(t *testing.T, value []byte, at []uint32) {
	t.Helper()
	got, err := over.Encode(value, at)
	if err != api.OK || !slices.EqualFunc(got, payloads(value, at), bytes.Equal) {
		t.Errorf("Encode(%d bytes, %d): %d payloads, %v", len(value), at, len(got), err)
	}
}

func refusesEncode(t *testing.T, value []byte, at []uint32) {
	t.Helper()
	if got, err := over.Encode(value, at); err != api.ErrOverForm || len(got) != 0 {
		t.Errorf("Encode(%d bytes, %d): %d payloads, %v", len(value), at, len(got), err)
	}
}

func TestErrorsHaveTheirNumbers(t *testing.T) {
	for err, number := range map[api.Errno]uint16{api.ErrOverForm: 120, api.ErrPoolForm: 100, api.ErrRange: 2, api.ErrDark: 4, api.ErrIO: 6} {
		if uint16(err) != number {
			t.Errorf("%v is not %d", err, number)
		}
	}
}

func TestFirstExample(t *testing.T) {
	for _, at := range [][2]int{{64, 0}, {65, 1}, {1004, 1}, {1005, 2}, {8192, 9}} {
		if got := over.Need(at[0]); got != at[1] {
			t.Errorf("Need(%d): %d, not %d", at[0], got, at[1])
		}
	}
	value := mixed(70, 1)
	got, err := over.Encode(value, []uint32{4})
	if err != api.OK || len(got) != 1 || len(got[0]) != 74 || !bytes.Equal(got[0], append([]byte{0, 0, 0, 0}, value...)) {
		t.Errorf("Encode(70 bytes, page 4): %x, %v", got, err)
	}
}

func TestSecondExample(t *testing.T) {
	for _, length := range []int{0, 65, 74, 1008} {
		d := loaded(t, 9, sheet{4, page.Leaf, mixed(length, 2)})
		refusesRead(t, made(t, d, 2), 4, 70, api.ErrOverForm)
	}
	d := loaded(t, 9, sheet{4, page.Leaf, payload(0, mixed(70, 3))})
	refusesRead(t, made(t, d, 2), 4, 70, api.ErrOverForm)
}

func TestNeed(t *testing.T) {
	for _, at := range [][2]int{
		{math.MinInt, 0}, {math.MinInt + 1, 0}, {math.MinInt32, 0}, {-8192, 0}, {-1004, 0}, {-65, 0}, {-1, 0},
		{0, 0}, {1, 0}, {63, 0}, {64, 0}, {65, 1}, {66, 1}, {1003, 1}, {1004, 1}, {1005, 2}, {2007, 2}, {2008, 2}, {2009, 3},
		{8031, 8}, {8032, 8}, {8033, 9}, {8191, 9}, {8192, 9}, {8193, 0}, {8194, 0}, {9036, 0}, {9037, 0}, {16384, 0},
		{math.MaxInt32, 0}, {1 << 32, 0}, {1<<32 + 70, 0}, {math.MaxInt - 1, 0}, {math.MaxInt, 0},
	} {
		if got := over.Need(at[0]); got != at[1] {
			t.Errorf("Need(%d): %d, not %d", at[0], got, at[1])
		}
	}
	for size := -2000; size < 20000; size++ {
		if got, want := over.Need(size), plainNeed(size); got != want {
			t.Fatalf("Need(%d): %d, not %d", size, got, want)
		}
	}
}

func TestEncodeOfEachSize(t *testing.T) {
	for size := 65; size <= 8192; size++ {
		encodes(t, mixed(size, uint32(size)), from(100, plainNeed(size)))
	}
}

// TestBytesStandLowestFirst writes out what payloads says by a rule.
func TestBytesStandLowestFirst(t *testing.T) {
	value := mixed(2100, 4)
	got, err := over.Encode(value, []uint32{7, 0x0506, 0x3fff})
	if err != api.OK || len(got) != 3 {
		t.Fatalf("%d payloads, %v", len(got), err)
	}
	for at, want := range [][]byte{
		append([]byte{6, 5, 0, 0}, value[:1004]...),
		append([]byte{0xff, 0x3f, 0, 0}, value[1004:2008]...),
		append([]byte{0, 0, 0, 0}, value[2008:]...),
	} {
		if !bytes.Equal(got[at], want) {
			t.Errorf("payload %d: %x, not %x", at, got[at], want)
		}
	}
}

// TestEncodeWithTooFewAndTooMany counts at on both sides of what is needed, none among them.
func TestEncodeWithTooFewAndTooMany(t *testing.T) {
	for _, size := range edges {
		value, need := mixed(size, 5), plainNeed(size)
		for length := range need + 4 {
			if at := from(100, length); length == need {
				encodes(t, value, at)
			} else {
				refusesEncode(t, value, at)
			}
		}
		refusesEncode(t, value, []uint32{})
	}
}

// TestEncodeOfWhatTakesNoPage: whatever at has, also if it has none.
func TestEncodeOfWhatTakesNoPage(t *testing.T) {
	for _, size := range tooSmallOrGreat {
		for _, length := range []int{0, 1, 2, 8, 9, 10, size/1004 + 1} {
			refusesEncode(t, mixed(size, 6), from(2, length))
		}
		refusesEncode(t, mixed(size, 6), []uint32{})
	}
	refusesEncode(t, nil, nil)
	refusesEncode(t, nil, []uint32{5})
	refusesEncode(t, []byte{}, []uint32{})
}

// TestEncodeWithPagesAtTheEdges lays each in each place.
func TestEncodeWithPagesAtTheEdges(t *testing.T) {
	for _, size := range []int{65, 1004, 1005, 2009, 8192} {
		value := mixed(size, 7)
		for place := range plainNeed(size) {
			at := from(100, plainNeed(size))
			for _, may := range []uint32{2, 3, 255, 256, 16382, 16383} {
				at[place] = may
				encodes(t, value, at)
			}
			for _, mayNot := range []uint32{0, 1, 16384, 16385, 1 << 16, 1<<16 + 5, 1 << 24, 1<<31 - 1, 1 << 31, 1<<31 + 5, greatest - 1, greatest} {
				at[place] = mayNot
				refusesEncode(t, value, at)
			}
		}
	}
}

// TestEncodeWithPagesInAnyOrder: at may fall, and may have one twice.
func TestEncodeWithPagesInAnyOrder(t *testing.T) {
	value := mixed(2500, 8)
	for _, at := range [][]uint32{{5, 4, 3}, {16383, 2, 9}, {2, 16383, 3}, {5, 5, 6}, {5, 6, 5}, {6, 5, 5}, {2, 2, 2}, {16383, 16383, 16383}} {
		encodes(t, value, at)
	}
	encodes(t, mixed(8192, 9), []uint32{9, 8, 7, 6, 5, 4, 3, 2, 9})
}
