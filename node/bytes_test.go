package node_test

import (
	"bytes"
	"encoding/binary"
	"fmt"
	"testing"

	"codicil/api"
	"codicil/node"
)

// laid are a node's bytes by the chapter's words, whether it may be or not.
func laid(n api.Node) []byte {
	b := binary.LittleEndian.AppendUint16(nil, uint16(len(n.Entries)))
	for _, e := range n.Entries {
		b = append(append(b, byte(len(e.Key))), e.Key...)
		switch {
		case !n.Leaf:
			b = binary.LittleEndian.AppendUint32(b, e.Page)
		case e.Page == 0 && e.Size == 0:
			b = append(append(b, byte(len(e.Value))), e.Value...)
		default:
			b = binary.LittleEndian.AppendUint32(binary.LittleEndian.AppendUint32(append(b, 0xff), e.Size), e.Page)
		}
	}
	return b
}

// taken is the node that these bytes are, if there is one: the one that can be read off them, if it has these bytes.
func taken(kind uint8, b []byte) (n api.Node, is bool) {
	if kind != 1 && kind != 2 || len(b) < 2 {
		return n, false
	}
	n.Leaf = kind == 1
	rest := b[2:]
	next := func(length int) []byte {
		if length > len(rest) {
			is = false
			return make([]byte, length)
		}
		got := rest[:length]
		rest = rest[length:]
		return got
	}
	is = true
	for count := int(b[0]) | int(b[1])<<8; is && count > 0; count-- {
		e := api.Entry{Key: next(int(next(1)[0]))}
		if !n.Leaf {
			e.Page = binary.LittleEndian.Uint32(next(4))
		} else if length := int(next(1)[0]); length < 255 {
			e.Value = next(length)
		} else {
			e.Size = binary.LittleEndian.Uint32(next(4))
			e.Page = binary.LittleEndian.Uint32(next(4))
			is = is && e.Size != 0
		}
		n.Entries = append(n.Entries, e)
	}
	return n, is && len(rest) == 0 && wanted(n) == api.OK && bytes.Equal(laid(n), b)
}

// decodes holds Decode of these bytes against that.
func decodes(t *testing.T, what string, kind uint8, b []byte) {
	t.Helper()
	want, is := taken(kind, b)
	if !is {
		refuses(t, what, kind, b)
		return
	}
	got, err := node.Decode(kind, b)
	if err != api.OK {
		t.Errorf("%s: Decode tells %v", what, err)
	}
	isNode(t, what, got, want)
}

func refuses(t *testing.T, what string, kind uint8, b []byte) {
	t.Helper()
	if n, err := node.Decode(kind, b); err != api.ErrNodeForm || n.Leaf || len(n.Entries) != 0 {
		t.Errorf("%s: Decode(%d, %x) tells %s and %v", what, kind, b, tell(n), err)
	}
}

func kindOf(n api.Node) uint8 {
	if n.Leaf {
		return 1
	}
	return 2
}

// some are nodes that may be.
func some() []api.Node {
	return []api.Node{
		leaf(small("a", "")),
		leaf(small("a", "1")),
		leaf(small("\x00", "\x00")),
		leaf(small(long(160), long(64))),
		leaf(great("b", 9, 100)),
		leaf(great("b", 2, 65)),
		leaf(great("b", 16383, 8192)),
		leaf(small("a", "1"), great("b", 9, 100), small("c", "")),
		leaf(great("a", 9, 100), great("b", 9, 100)),
		leafOf(1007), leafOf(1008),
		branch(kid("", 5)),
		branch(kid("", 2), kid("\x00", 16383)),
		branch(kid("", 5), kid("m", 6), kid("n", 0x0203)),
		branch(kid("", 5), kid(long(160), 6)),
		branchOf(1007), branchOf(1008),
	}
}

func encoded(t *testing.T, n api.Node) []byte {
	t.Helper()
	b, err := node.Encode(n)
	if err != api.OK || len(b) != node.Size(n) {
		t.Fatalf("Encode of %s tells %d bytes and %v", tell(n), len(b), err)
	}
	return b
}

func TestDecodeOfEncode(t *testing.T) {
	all := some()
	var d drawn = 2
	for range 2000 {
		if n := d.node(d.below(2) == 0, 1+d.below(9)); mayBe(n) && node.Size(n) <= 1008 {
			all = append(all, n)
		}
	}
	for _, n := range all {
		b := encoded(t, n)
		got, err := node.Decode(kindOf(n), b)
		if err != api.OK {
			t.Errorf("Decode of %s tells %v", tell(n), err)
		}
		isNode(t, "Decode of Encode", got, n)
	}
	if len(all) < 1000 {
		t.Error("too few nodes:", len(all))
	}
}

func TestDecodeOfOtherKinds(t *testing.T) {
	for _, n := range some() {
		b := encoded(t, n)
		for kind := range 256 {
			if uint8(kind) != kindOf(n) {
				decodes(t, "another kind", uint8(kind), b)
			}
		}
		for _, kind := range []uint8{0, 3, 4, 5, 129, 130, 255} {
			refuses(t, "a kind that is none", kind, b)
		}
		refuses(t, "the other kind", 3-kindOf(n), b)
	}
}

func TestDecodeOfFewBytes(t *testing.T) {
	for _, b := range [][]byte{nil, {}, {0}, {1}, {0, 0}, {1, 0}, {0, 1}, {255, 255}, {1, 0, 0}, {1, 0, 1}, {1, 0, 0, 0}} {
		for kind := range 5 {
			refuses(t, "few bytes", uint8(kind), b)
		}
	}
}

func TestDecodeOfBytesThatAreCutOff(t *testing.T) {
	for _, n := range some() {
		b := encoded(t, n)
		for length := range b {
			refuses(t, "cut off", kindOf(n), b[:length:length])
		}
	}
}

func TestDecodeOfMoreBehind(t *testing.T) {
	for _, n := range some() {
		b := encoded(t, n)
		for c := range 256 {
			refuses(t, "one byte more", kindOf(n), append(bytes.Clone(b), byte(c)))
		}
		refuses(t, "an entry more", kindOf(n), append(bytes.Clone(b), laid(n)[2:]...))
		refuses(t, "noughts behind", kindOf(n), append(bytes.Clone(b), make([]byte, 2000)...))
	}
}

func TestDecodeOfAnotherByte(t *testing.T) {
	for _, n := range some() {
		b := encoded(t, n)
		step := 1 + len(b)/100 // of long ones fewer, so that it does not take long
		for at := range b {
			for other := at % step; other < 256; other += step {
				changed := bytes.Clone(b)
				changed[at] = byte(other)
				decodes(t, fmt.Sprint("another byte at ", at), kindOf(n), changed)
			}
		}
	}
}

func TestDecodeOfOtherCounts(t *testing.T) {
	for _, n := range some() {
		b := encoded(t, n)
		for count := range 1 << 16 {
			if count == len(n.Entries) {
				continue
			}
			binary.LittleEndian.PutUint16(b, uint16(count))
			refuses(t, "another count", kindOf(n), b)
		}
	}
}

// TestDecodeOfNodesThatAreNone writes down what may not be, by the chapter's form.
func TestDecodeOfNodesThatAreNone(t *testing.T) {
	for _, n := range []api.Node{
		leaf(), leaf(small("", "1")), leaf(small(long(161), "1")), leaf(small("b", ""), small("a", "")), leaf(small("a", ""), small("a", "")),
		leaf(small("a", long(65))), leaf(small("a", long(254))),
		leaf(great("a", 1, 100)), leaf(great("a", 0, 100)), leaf(great("a", 16384, 100)), leaf(great("a", 9, 64)), leaf(great("a", 9, 8193)), leaf(great("a", 9, 0)),
		leafOf(1009), branch(), branchOf(1009),
		branch(kid("a", 5)), branch(kid("", 5), kid("", 6)), branch(kid("", 5), kid("b", 6), kid("a", 7)), branch(kid("", 5), kid("a", 6), kid("a", 7)),
		branch(kid("", 1)), branch(kid("", 0)), branch(kid("", 16384)), branch(kid("", 5), kid("a", 5)), branch(kid("", 5), kid(long(161), 6)),
	} {
		if mayBe(n) && len(laid(n)) <= 1008 {
			t.Fatal("a node that may be")
		}
		refuses(t, "what may not be", kindOf(n), laid(n))
	}
	refuses(t, "a great value of noughts", 1, []byte("\x01\x00\x01a\xff\x00\x00\x00\x00\x00\x00\x00\x00"))
	refuses(t, "a great value of noughts among others", 1, []byte("\x02\x00\x01a\xff\x00\x00\x00\x00\x00\x00\x00\x00\x01b\x00"))
}

// TestDecodeOfAllShortBytes goes through all bytes of a few signs.
func TestDecodeOfAllShortBytes(t *testing.T) {
	found := 0
	for _, most := range []struct {
		signs  string
		length int
	}{{"\x00\x01\x02\x03\xff", 8}, {"\x00\x01\x02", 11}} {
		var grow func(b []byte)
		grow = func(b []byte) {
			for kind := range uint8(4) {
				if _, is := taken(kind, b); is {
					found++
				}
				decodes(t, "short bytes", kind, b)
			}
			if len(b) == most.length {
				return
			}
			for _, c := range []byte(most.signs) {
				grow(append(b[:len(b):len(b)], c))
			}
		}
		grow(nil)
	}
	if found < 100 {
		t.Error("too few of them are nodes:", found)
	}
}

// TestDecodeOfLongBytes lays bytes down that go on as a node does, far beyond a page.
func TestDecodeOfLongBytes(t *testing.T) {
	n := leaf()
	for at := range 3000 {
		n.Entries = append(n.Entries, small(fmt.Sprintf("%04d", at), ""))
	}
	refuses(t, "a leaf of three thousand", 1, laid(n))
	n = branch(kid("", 2))
	for at := range 3000 {
		n.Entries = append(n.Entries, kid(fmt.Sprintf("%04d", at), uint32(3+at)))
	}
	refuses(t, "a branch of three thousand", 2, laid(n))
	refuses(t, "noughts", 1, make([]byte, 1<<20))
	refuses(t, "ones", 1, bytes.Repeat([]byte{0xff}, 1<<20))
	refuses(t, "ones", 2, bytes.Repeat([]byte{0xff}, 1<<20))
}
