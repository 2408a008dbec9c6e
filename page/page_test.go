package page_test

import (
	"bytes"
	"encoding/binary"
	"fmt"
	"hash/crc32"
	"testing"

	"codicil/api"
	"codicil/page"
)

const greatest = 1<<32 - 1

var (
	someKinds   = []uint8{page.Leaf, page.Branch, page.Over, page.Free}
	someNumbers = []uint32{0, 1, 2, 7, 255, 256, 65535, 65536, 0x01020304, 16383, 1 << 31, greatest - 1, greatest}
	someLengths = []int{0, 1, 2, 3, 4, 100, 255, 256, 257, 1004, 1006, 1007, 1008}
)

// full are n bytes of one sort.
func full(n int, c byte) []byte { return bytes.Repeat([]byte{c}, n) }

// mixed are n bytes that look like nothing, the same ones for the same seed.
func mixed(n int, seed uint32) []byte {
	out := make([]byte, n)
	state := seed*2654435761 + 12345
	for at := range out {
		state = state*1664525 + 1013904223
		out[at] = byte(state >> 24)
	}
	return out
}

// summed puts the right checksum into the last four bytes of b.
func summed(b []byte) []byte {
	body := b[:len(b)-4]
	binary.LittleEndian.PutUint32(b[len(body):], crc32.Checksum(body, crc32.MakeTable(crc32.Castagnoli)))
	return b
}

// laid is a page by the chapter's words, whatever it is given.
func laid(kind, third byte, number uint32, length uint16, eleventh uint16, payload []byte) []byte {
	b := make([]byte, 1024)
	b[0], b[1], b[2], b[3] = 0x43, 0x50, kind, third
	binary.LittleEndian.PutUint32(b[4:], number)
	binary.LittleEndian.PutUint16(b[8:], length)
	binary.LittleEndian.PutUint16(b[10:], eleventh)
	copy(b[12:1020], payload)
	return summed(b)
}

func sealed(t *testing.T, kind uint8, number uint32, payload []byte) []byte {
	t.Helper()
	b, err := page.Seal(kind, number, payload)
	if err != api.OK || len(b) != 1024 {
		t.Fatalf("Seal(%d, %d, %d bytes) tells %d bytes and %v", kind, number, len(payload), len(b), err)
	}
	return b
}

func refusesSeal(t *testing.T, kind uint8, number uint32, payload []byte) {
	t.Helper()
	if b, err := page.Seal(kind, number, payload); err != api.ErrPageForm || len(b) != 0 {
		t.Errorf("Seal(%d, %d, %d bytes) tells %d bytes and %v", kind, number, len(payload), len(b), err)
	}
}

func opens(t *testing.T, number uint32, b []byte, kind uint8, payload []byte) {
	t.Helper()
	gotKind, gotPayload, err := page.Open(number, b)
	if err != api.OK || gotKind != kind || !bytes.Equal(gotPayload, payload) {
		t.Errorf("Open(%d, ..) tells %d, %d bytes and %v, not %d, %d bytes (or others)", number, gotKind, len(gotPayload), err, kind, len(payload))
	}
}

func refusesOpen(t *testing.T, what string, number uint32, b []byte) {
	t.Helper()
	if kind, payload, err := page.Open(number, b); err != api.ErrPageForm || kind != 0 || len(payload) != 0 {
		t.Errorf("%s: Open(%d, ..) tells %d, %d bytes and %v", what, number, kind, len(payload), err)
	}
}

func TestNumbersOfErrorsAndKinds(t *testing.T) {
	for err, number := range map[api.Errno]uint16{api.ErrPageForm: 80, api.ErrCommitNone: 150, api.ErrCommitCorrupt: 151} {
		if uint16(err) != number {
			t.Errorf("%v is not %d", err, number)
		}
	}
	if page.Leaf != 1 || page.Branch != 2 || page.Over != 3 || page.Free != 4 {
		t.Error("a kind has another number")
	}
}

func TestExampleOfPages(t *testing.T) {
	b := sealed(t, 1, 7, []byte("ab"))
	want := make([]byte, 1024)
	copy(want, []byte{0x43, 0x50, 0x01, 0x00, 0x07, 0, 0, 0, 0x02, 0, 0, 0, 0x61, 0x62})
	if !bytes.Equal(b, summed(want)) {
		t.Errorf("another page: % x", b)
	}
	opens(t, 7, b, 1, []byte("ab"))
	refusesOpen(t, "another number", 8, b)
	refusesSeal(t, 5, 7, []byte("ab"))
}

func TestSealIsThePageOfTheChapter(t *testing.T) {
	for _, kind := range someKinds {
		for _, number := range someNumbers {
			for _, length := range someLengths {
				payload := mixed(length, number+uint32(kind))
				want := laid(kind, 0, number, uint16(length), 0, payload)
				if b := sealed(t, kind, number, payload); !bytes.Equal(b, want) {
					t.Fatalf("Seal(%d, %d, %d bytes) is another page", kind, number, length)
				}
			}
		}
	}
}

func TestSealRefusesOtherKinds(t *testing.T) {
	for kind := range 256 {
		for _, length := range []int{0, 5, 1008} {
			if kind >= 1 && kind <= 4 {
				sealed(t, uint8(kind), 3, make([]byte, length))
			} else {
				refusesSeal(t, uint8(kind), 3, make([]byte, length))
			}
		}
	}
}

func TestSealRefusesLongPayloads(t *testing.T) {
	for _, length := range []int{1009, 1010, 1012, 1013, 1024, 2048, 65535, 65536, 65537, 65536 + 1008, 1 << 20} {
		for _, kind := range []uint8{0, 1, 4, 5, 255} {
			refusesSeal(t, kind, 3, make([]byte, length))
		}
	}
}

func TestOpenOfSealIsWhatWasSealed(t *testing.T) {
	for _, kind := range someKinds {
		for _, number := range someNumbers {
			for _, length := range someLengths {
				for _, payload := range [][]byte{mixed(length, number), make([]byte, length), full(length, 0xff)} {
					opens(t, number, sealed(t, kind, number, payload), kind, payload)
				}
			}
		}
	}
	for length := range 1009 {
		payload := mixed(length, uint32(length))
		opens(t, 9, sealed(t, page.Over, 9, payload), page.Over, payload)
	}
}

func TestNilAndEmptyAreTheSame(t *testing.T) {
	none, empty := sealed(t, 2, 5, nil), sealed(t, 2, 5, []byte{})
	if !bytes.Equal(none, empty) {
		t.Error("a payload of nil is not an empty one")
	}
	opens(t, 5, none, 2, nil)
}

func TestAPageOfAnotherNumberIsNone(t *testing.T) {
	for _, number := range someNumbers {
		b := sealed(t, page.Branch, number, mixed(50, number))
		for _, other := range someNumbers {
			if other != number {
				refusesOpen(t, "another number", other, b)
			}
		}
		for bit := range 32 {
			refusesOpen(t, "a number with another bit", number^1<<bit, b)
		}
		opens(t, number, b, page.Branch, mixed(50, number))
	}
}

func TestOpenOfAnotherLength(t *testing.T) {
	whole := sealed(t, page.Leaf, 7, mixed(1008, 1))
	refusesOpen(t, "nil", 7, nil)
	refusesOpen(t, "no bytes", 7, []byte{})
	for n := range 1024 {
		refusesOpen(t, "a page's beginning", 7, whole[:n])
		refusesOpen(t, "a page's end", 7, whole[n+1:])
	}
	for _, more := range []int{1, 4, 128, 1024, 64512} {
		refusesOpen(t, "a page with noughts behind it", 7, append(bytes.Clone(whole), make([]byte, more)...))
	}
	refusesOpen(t, "two pages", 7, append(bytes.Clone(whole), whole...))
	for _, n := range []int{16, 128, 1023, 1025, 2048} {
		b := make([]byte, n)
		copy(b, sealed(t, page.Leaf, 7, nil))
		refusesOpen(t, "another length with a right checksum", 7, summed(b))
	}
}

func TestOpenOfOtherBytes(t *testing.T) {
	for _, b := range [][]byte{make([]byte, 1024), full(1024, 0xff), mixed(1024, 1), summed(make([]byte, 1024)), summed(mixed(1024, 2))} {
		for _, number := range someNumbers {
			refusesOpen(t, "no page", number, b)
		}
	}
}

func TestEachByteThatIsAnotherIsTold(t *testing.T) {
	for _, length := range []int{0, 2, 1008} {
		whole := sealed(t, page.Leaf, 7, mixed(length, 3))
		for at := range whole {
			for _, change := range []byte{1, 2, 0x80, 0x55, 0xff, whole[at]} {
				if change != 0 {
					b := bytes.Clone(whole)
					b[at] ^= change
					refusesOpen(t, fmt.Sprintf("byte %d of a payload of %d", at, length), 7, b)
				}
			}
		}
		opens(t, 7, whole, page.Leaf, mixed(length, 3))
	}
}

// TestRightSumsDoNotMakeAPage holds each field that Seal would not have written so, behind a checksum that is right.
func TestRightSumsDoNotMakeAPage(t *testing.T) {
	payload := mixed(600, 4)
	opens(t, 7, laid(1, 0, 7, 600, 0, payload), 1, payload)
	for kind := range 256 {
		if kind < 1 || kind > 4 {
			refusesOpen(t, "no kind", 7, laid(byte(kind), 0, 7, 600, 0, payload))
		}
	}
	for other := 1; other < 256; other++ {
		refusesOpen(t, "byte 3", 7, laid(1, byte(other), 7, 600, 0, payload))
		refusesOpen(t, "byte 10", 7, laid(1, 0, 7, 600, uint16(other), payload))
		refusesOpen(t, "byte 11", 7, laid(1, 0, 7, 600, uint16(other)<<8, payload))
	}
	for at := range 2 {
		for change := 1; change < 256; change++ {
			b := laid(1, 0, 7, 600, 0, payload)
			b[at] ^= byte(change)
			refusesOpen(t, "the mark", 7, summed(b))
		}
	}
	for _, number := range someNumbers {
		if number != 7 {
			refusesOpen(t, "the number", 7, laid(1, 0, number, 600, 0, payload))
		}
	}
}

func TestRightSumsDoNotMakeALength(t *testing.T) {
	noughts := make([]byte, 1008)
	for length := range 1 << 16 {
		if length > 1008 && (length < 1100 || length%251 == 0 || length > 1<<16-20) {
			refusesOpen(t, "a length that is too great", 7, laid(1, 0, 7, uint16(length), 0, noughts))
		}
	}
	for length := range 1009 {
		opens(t, 7, laid(1, 0, 7, uint16(length), 0, noughts), 1, noughts[:length])
	}
}

func TestRightSumsDoNotMakeNoughts(t *testing.T) {
	for _, length := range []int{0, 1, 2, 600, 1006, 1007} {
		for at := length; at < 1008; at++ {
			payload := mixed(1008, 5)
			clear(payload[length:])
			payload[at] = byte(at) | 1
			refusesOpen(t, "no nought behind the payload", 7, laid(1, 0, 7, uint16(length), 0, payload))
			opens(t, 7, laid(1, 0, 7, uint16(at+1), 0, payload), 1, payload[:at+1])
		}
	}
}

// TestWhatOpensIsWhatSealGives goes the other way round: what Open takes, Seal gives again, byte by byte.
func TestWhatOpensIsWhatSealGives(t *testing.T) {
	taken := 0
	for seed := range uint32(4000) {
		drawn := mixed(8, seed)
		b := laid(drawn[0]%6, drawn[1]%4/3, uint32(drawn[2]%2), uint16(drawn[3]%4), uint16(drawn[4]%4/3), drawn[5:5+drawn[6]%4])
		kind, payload, err := page.Open(0, b)
		if err != api.OK {
			continue
		}
		taken++
		if again := sealed(t, kind, 0, payload); !bytes.Equal(again, b) {
			t.Fatalf("taken, and not what Seal gives: % x", b[:20])
		}
	}
	if taken < 100 || taken > 3000 {
		t.Errorf("%d of 4000 were taken: they tell little", taken)
	}
}
