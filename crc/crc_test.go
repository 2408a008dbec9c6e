package crc

import (
	"bytes"
	"hash/crc32"
	"testing"
)

// reckoned is the chapter's rule, bit by bit: it shares nothing with the program.
func reckoned(begin uint32, b []byte) uint32 {
	n := begin
	for _, c := range b {
		n ^= uint32(c)
		for i := 0; i < 8; i++ {
			low := n & 1
			n >>= 1
			if low == 1 {
				n ^= 0x82f63b78
			}
		}
	}
	return n ^ 0xffffffff
}

// someText is n bytes that look like nothing, the same ones for the same seed.
func someText(n int, seed uint32) []byte {
	b := make([]byte, n)
	x := seed*2654435761 + 12345
	for i := range b {
		x = x*1664525 + 1013904223
		b[i] = byte(x >> 24)
	}
	return b
}

var edgeSums = []uint32{0, 1, 0x80000000, 0x7fffffff, 0xfffffffe, 0xffffffff, 0x82f63b78, 0x7d09c487, 0xe3069283, 0xdeadbeef}

func TestExamples(t *testing.T) {
	for _, c := range []struct {
		text string
		want uint32
	}{{"123456789", 0xe3069283}, {"", 0}, {"\x00", 0x527d5351}} {
		if got := Sum([]byte(c.text)); got != c.want {
			t.Errorf("Sum(%q) = %08x, not %08x", c.text, got, c.want)
		}
	}
	if got := More(Sum([]byte("1234")), []byte("56789")); got != 0xe3069283 {
		t.Errorf("More(Sum(1234), 56789) = %08x", got)
	}
}

// Sums that RFC 3720 (B.4) gives.
func TestSumsKnownElsewhere(t *testing.T) {
	rising, falling := make([]byte, 32), make([]byte, 32)
	for i := range rising {
		rising[i], falling[i] = byte(i), byte(31-i)
	}
	for _, c := range []struct {
		text []byte
		want uint32
	}{
		{make([]byte, 32), 0x8a9136aa},
		{bytes.Repeat([]byte{0xff}, 32), 0x62a8ab43},
		{rising, 0x46dd794e},
		{falling, 0x113fdb5c},
	} {
		if got := Sum(c.text); got != c.want {
			t.Errorf("Sum(%x) = %08x, not %08x", c.text, got, c.want)
		}
	}
}

func TestNothing(t *testing.T) {
	if Sum(nil) != 0 || Sum([]byte{}) != 0 || Sum([]byte{1, 2, 3}[:0]) != 0 {
		t.Error("the sum of nothing is not 0")
	}
	for _, s := range edgeSums {
		if More(s, nil) != s || More(s, []byte{}) != s || More(s, []byte{1, 2, 3}[:0]) != s {
			t.Errorf("nothing behind %08x changes it", s)
		}
	}
}

func TestEveryByte(t *testing.T) {
	for c := 0; c < 256; c++ {
		b := []byte{byte(c)}
		if got, want := Sum(b), reckoned(0xffffffff, b); got != want {
			t.Errorf("Sum(%02x) = %08x, not %08x", c, got, want)
		}
		for _, s := range edgeSums {
			if got, want := More(s, b), reckoned(^s, b); got != want {
				t.Errorf("More(%08x, %02x) = %08x, not %08x", s, c, got, want)
			}
		}
	}
}

func TestLongerTexts(t *testing.T) {
	castagnoli := crc32.MakeTable(crc32.Castagnoli)
	lengths := []int{1023, 1024, 1025, 8192, 65537}
	for n := range 300 {
		lengths = append(lengths, n)
	}
	for _, n := range lengths {
		b := someText(n, uint32(n))
		got := Sum(b)
		if want := reckoned(0xffffffff, b); got != want {
			t.Errorf("Sum of %d bytes = %08x, not %08x", n, got, want)
		}
		if want := crc32.Checksum(b, castagnoli); got != want {
			t.Errorf("Sum of %d bytes = %08x, CRC-32C is %08x", n, got, want)
		}
	}
}

func TestMoreFromAnySum(t *testing.T) {
	for i := range 200 {
		s := reckoned(uint32(i)*0x9e3779b9, someText(4, uint32(i)))
		b := someText(i, uint32(i)+7)
		if got, want := More(s, b), reckoned(^s, b); got != want {
			t.Errorf("More(%08x, %d bytes) = %08x, not %08x", s, i, got, want)
		}
	}
}

func TestMoreInPieces(t *testing.T) {
	b := someText(300, 5)
	want := Sum(b)
	for cut := 0; cut <= len(b); cut++ {
		if got := More(Sum(b[:cut]), b[cut:]); got != want {
			t.Errorf("cut at %d: %08x, not %08x", cut, got, want)
		}
	}
	for piece := 1; piece <= len(b); piece++ {
		got := uint32(0)
		for at := 0; at < len(b); at += piece {
			got = More(got, b[at:min(at+piece, len(b))])
		}
		if got != want {
			t.Errorf("pieces of %d: %08x, not %08x", piece, got, want)
		}
	}
}

// What is handed in stays, and what lies behind its length is neither read nor written.
func TestBytesStayAsTheyAre(t *testing.T) {
	whole := someText(64, 9)
	before := bytes.Clone(whole)
	for n := 0; n <= 40; n++ {
		sum, more := Sum(whole[:n]), More(0xdeadbeef, whole[:n])
		if !bytes.Equal(whole, before) {
			t.Fatalf("%d bytes handed in: changed", n)
		}
		alone := bytes.Clone(before[:n])
		if sum != Sum(alone) || more != More(0xdeadbeef, alone) {
			t.Errorf("%d bytes: what lies behind them is read", n)
		}
	}
}

// Nothing is kept: not the bytes, nor anything of an earlier call.
func TestNothingIsKept(t *testing.T) {
	b := someText(50, 3)
	first := Sum(b)
	clear(b)
	if got, want := Sum(b), reckoned(0xffffffff, b); got != want {
		t.Errorf("after the bytes were changed: %08x, not %08x", got, want)
	}
	More(0x12345678, someText(99, 4))
	if got := Sum(someText(50, 3)); got != first {
		t.Errorf("asked again: %08x, not %08x", got, first)
	}
}

func TestExclusiveOr(t *testing.T) {
	for n := range 200 {
		a, b := someText(n, uint32(n)+1), someText(n, uint32(n)+1000)
		both := make([]byte, n)
		for i := range both {
			both[i] = a[i] ^ b[i]
		}
		if got := Sum(a) ^ Sum(b) ^ Sum(both) ^ Sum(make([]byte, n)); got != 0 {
			t.Errorf("%d bytes: %08x, not 0", n, got)
		}
	}
}

// flipped is b with the bits of burst turned over, from bit `at` on, the lowest bit of a byte first.
func flipped(b []byte, at int, burst uint32) []byte {
	out := bytes.Clone(b)
	for i := range 32 {
		if burst>>i&1 == 1 {
			out[(at+i)/8] ^= 1 << ((at + i) % 8)
		}
	}
	return out
}

func TestBurstsAreTold(t *testing.T) {
	b := someText(40, 11)
	want := Sum(b)
	for at := 0; at+32 <= 8*len(b); at++ {
		for i := range 500 {
			burst := reckoned(uint32(i), someText(3, uint32(at))) >> (i % 32)
			if i < 32 {
				burst = 0xffffffff >> i
			} else if i < 64 {
				burst = 1 << (i - 32)
			}
			if burst != 0 && Sum(flipped(b, at, burst)) == want {
				t.Fatalf("bits %08x turned over at %d are not told", burst, at)
			}
		}
	}
}

// By the exclusive-or law a burst goes untold only if what its single bits change comes to 0 put together:
// so 32 changes of which none is made of the others tell all 2^32-1 bursts of a place.
func TestEveryBurstOfAPlaceIsTold(t *testing.T) {
	for _, n := range []int{4, 5, 40, 1024} {
		b := someText(n, uint32(n))
		for at := 0; at+32 <= 8*n; at += 1 + n/64 {
			if rank := rankOfBits(b, at); rank != 32 {
				t.Fatalf("%d bytes, at %d: only %d changes stand alone", n, at, rank)
			}
		}
	}
}

func rankOfBits(b []byte, at int) int {
	var byTop [32]uint32
	rank := 0
	for i := range 32 {
		change := Sum(b) ^ Sum(flipped(b, at, 1<<i))
		for top := 31; top >= 0 && change != 0; top-- {
			if change>>top&1 == 0 {
				continue
			}
			if byTop[top] == 0 {
				byTop[top] = change
				rank++
				break
			}
			change ^= byTop[top]
		}
	}
	return rank
}

func TestHalfBytesAreMadeAnew(t *testing.T) {
	var first [16]uint32 = halfBytes()
	for half, got := range first {
		want := uint32(half)
		for i := 0; i < 4; i++ {
			want = want>>1 ^ (want&1)*0x82f63b78
		}
		if got != want {
			t.Errorf("half a byte %x comes to %08x, not %08x", half, got, want)
		}
	}
	first[3] = 0
	if halfBytes()[3] == 0 || Sum([]byte("123456789")) != 0xe3069283 {
		t.Error("one who changes the table changes it for others")
	}
}
