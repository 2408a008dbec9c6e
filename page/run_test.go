package page_test

import (
	"bytes"
	"encoding/binary"
	"testing"

	"codicil/api"
	"codicil/page"
)

// turned is b with the bits of run turned over, from bit `at` on, the lowest bit of a byte first, as the checksum takes them.
func turned(b []byte, at int, run uint32) []byte {
	out := bytes.Clone(b)
	for i := range 32 {
		if run>>i&1 == 1 {
			out[(at+i)/8] ^= 1 << ((at + i) % 8)
		}
	}
	return out
}

// runs are runs of bits that may stand at that place: all of one length, a few, the ends alone, and some that look like nothing.
func runs(at int) []uint32 {
	out := []uint32{1, 3, 0xff, 0xffff, 0xffffffff, 0x80000001, 0x00800001, 0x00000081, 0xdeadbeef | 1, 0x82f63b78 | 1, 0x05ec76f1}
	drawn := mixed(24, uint32(at))
	for len(drawn) > 0 {
		out = append(out, binary.LittleEndian.Uint32(drawn)>>(at%32)|1)
		drawn = drawn[4:]
	}
	return out
}

// eachRun hands b on with runs of at most 32 bits turned over, beginning at each bit.
func eachRun(b []byte, told func(at int, run uint32, other []byte)) {
	bits := 8 * len(b)
	for at := range bits {
		for _, run := range runs(at) {
			if bits-at < 32 {
				run &= 1<<(bits-at) - 1
			}
			told(at, run, turned(b, at, run))
		}
	}
}

func TestRunsOfBitsOfAPageAreTold(t *testing.T) {
	for _, payload := range [][]byte{nil, mixed(1008, 6)} {
		eachRun(sealed(t, page.Leaf, 7, payload), func(at int, run uint32, other []byte) {
			if kind, got, err := page.Open(7, other); err != api.ErrPageForm || kind != 0 || len(got) != 0 {
				t.Fatalf("bits %08x turned over from bit %d on are not told", run, at)
			}
		})
	}
}

func TestRunsWithinAByteAreTold(t *testing.T) {
	whole := sealed(t, page.Free, 1<<20, mixed(700, 7))
	for _, at := range []int{0, 1, 2, 3, 4, 7, 8, 9, 10, 11, 12, 500, 711, 712, 1019, 1020, 1023} {
		for change := 1; change < 256; change++ {
			refusesOpen(t, "a byte of which some bits are others", 1<<20, turned(whole, 8*at, uint32(change)))
		}
	}
}

// TestRunsToAnotherNumberAreTold asks by the number that has come of the change: then the checksum alone can tell.
func TestRunsToAnotherNumberAreTold(t *testing.T) {
	whole := sealed(t, page.Leaf, 7, []byte("ab"))
	for seed := range 32 {
		for _, run := range runs(seed) {
			other := turned(whole, 32, run)
			refusesOpen(t, "another number, asked for", binary.LittleEndian.Uint32(other[4:]), other)
		}
	}
}

func TestRunsOfBitsOfAStateAreTold(t *testing.T) {
	for _, m := range []api.Meta{{Generation: 1, Pages: 2}, {Generation: 6, Root: 3, Free: 9, Pages: 77, Keys: 5}, {Generation: 1 << 62, Root: 16383, Free: 2, Pages: 16384, Keys: 1 << 62}} {
		eachRun(put(t, m), func(at int, run uint32, other []byte) {
			if got, err := page.GetMeta(other); err != api.ErrPageForm || got != (api.Meta{}) {
				t.Fatalf("bits %08x turned over from bit %d on are not told", run, at)
			}
		})
	}
}
