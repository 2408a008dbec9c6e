package over_test

import (
	"bytes"
	"slices"
	"testing"

	"codicil/api"
	"codicil/over"
	"codicil/page"
)

// withRoom is a list with other things in the room behind it.
func withRoom[T any](list []T, room int, other T) []T {
	out := slices.Clone(list)
	for range room {
		out = append(out, other)
	}
	return out[:len(list):len(out)]
}

// spoil writes into all memory that a list has, also into the room behind it.
func spoil[T byte | uint32](list []T) {
	for at := range list[:cap(list)] {
		list[:cap(list)][at] ^= 0x5a
	}
}

func whole[T any](list []T) []T { return slices.Clone(list[:cap(list)]) }

func TestEncodeNeitherChangesNorKeepsWhatIsHandedIn(t *testing.T) {
	for _, size := range edges {
		want := payloads(mixed(size, 41), from(100, plainNeed(size)))
		for _, room := range []int{0, 1, 2000, 9000} {
			value, at := withRoom(mixed(size, 41), room, '!'), withRoom(from(100, plainNeed(size)), room, greatest)
			allValue, allAt := whole(value), whole(at)
			got, err := over.Encode(value, at)
			if err != api.OK || !slices.EqualFunc(got, want, bytes.Equal) {
				t.Errorf("%d bytes with room behind them: %v", size, err)
			}
			if !bytes.Equal(whole(value), allValue) || !slices.Equal(whole(at), allAt) {
				t.Error("what was handed in has changed")
			}
			spoil(value)
			spoil(at)
			if !slices.EqualFunc(got, want, bytes.Equal) {
				t.Error("what was handed in was kept")
			}
		}
	}
}

func TestARefusedEncodeChangesNothing(t *testing.T) {
	for _, size := range []int{64, 2009, 8192, 8193} {
		value, at := withRoom(mixed(size, 42), 50, '!'), withRoom([]uint32{20, 21, 1, 16384}, 9, 7)
		allValue, allAt := whole(value), whole(at)
		for length := range 5 {
			over.Encode(value, at[:length])
		}
		if !bytes.Equal(whole(value), allValue) || !slices.Equal(whole(at), allAt) {
			t.Error("what was handed in has changed")
		}
	}
}

// TestRoomBehindWhatIsHandedInIsNotRead: neither bytes nor pages that would make it right.
func TestRoomBehindWhatIsHandedInIsNotRead(t *testing.T) {
	refusesEncode(t, withRoom(mixed(64, 43), 1, 'x'), from(2, 1))
	refusesEncode(t, mixed(1005, 43), withRoom(from(2, 1), 1, 3))
	refusesEncode(t, mixed(65, 43), withRoom([]uint32{}, 1, 3))
	encodes(t, withRoom(mixed(1004, 43), 1, 'x'), withRoom(from(2, 1), 1, 3))
	encodes(t, withRoom(mixed(8192, 43), 1, 'x'), withRoom(from(2, 9), 1, 0))
}

// TestPayloadsShareNoMemory: each is spoilt in turn with its room, and all others stay, as does what a later call tells.
func TestPayloadsShareNoMemory(t *testing.T) {
	value, at := mixed(4500, 44), from(100, 5)
	want := payloads(value, at)
	one, _ := over.Encode(value, at)
	two, _ := over.Encode(value, at)
	for i, b := range slices.Concat(one, two) {
		if !bytes.Equal(b, want[i%5]) {
			t.Errorf("payload %d shares memory with one ahead of it", i)
		}
		spoil(b)
	}
	one[0], one[1] = nil, nil
	if two[0] == nil || two[1] == nil {
		t.Error("two answers are one list")
	}
	if !bytes.Equal(value, mixed(4500, 44)) || !slices.Equal(at, from(100, 5)) {
		t.Error("a payload shares memory with what was handed in")
	}
	encodes(t, value, at)
}

// TestWhatReadToldIsNewMemory: answers of pages that came in by a read, that were at hand, and that were written are spoilt in turn.
func TestWhatReadToldIsNewMemory(t *testing.T) {
	for _, size := range []int{65, 1004, 1005, 2500, 8192} {
		value, at := mixed(size, 45), from(3, plainNeed(size))
		for _, most := range []int{1, 2, 9} {
			d := loaded(t, 13, sheets(value, at)...)
			p := made(t, d, most)
			var told [][]byte
			var pages [][]uint32
			for range 4 {
				b, l, _ := over.Read(p, 3, uint32(size))
				told, pages = append(told, b), append(pages, l)
			}
			for i := range told {
				if !bytes.Equal(told[i], value) || !slices.Equal(pages[i], at) {
					t.Errorf("answer %d shares memory with one ahead of it", i)
				}
				spoil(told[i])
				spoil(pages[i])
				reads(t, p, value, at)
			}
			reads(t, made(t, d, 1), value, at)
		}
	}
}

// TestRoomBehindWhatReadToldIsNobodysElse adds to answers, which may take the room behind them.
func TestRoomBehindWhatReadToldIsNobodysElse(t *testing.T) {
	value, at := mixed(1500, 46), []uint32{5, 3}
	p := made(t, loaded(t, 9, sheets(value, at)...), 4)
	first, firstPages, _ := over.Read(p, 5, 1500)
	second, secondPages, _ := over.Read(p, 5, 1500)
	one, two := append(first, "one"...), append(second, "two"...)
	if !bytes.Equal(one, append(mixed(1500, 46), "one"...)) || !bytes.Equal(two, append(mixed(1500, 46), "two"...)) {
		t.Error("room behind the bytes is shared")
	}
	onePages, twoPages := append(firstPages, 7), append(secondPages, 8)
	if !slices.Equal(onePages, []uint32{5, 3, 7}) || !slices.Equal(twoPages, []uint32{5, 3, 8}) {
		t.Errorf("room behind the pages is shared: %d, %d", onePages, twoPages)
	}
	reads(t, p, value, at)
}

// TestWhatReadToldStaysAsItWas: also when its pages are written anew, go, or fail.
func TestWhatReadToldStaysAsItWas(t *testing.T) {
	value, at := mixed(1500, 47), []uint32{5, 3}
	d := loaded(t, 9, sheets(value, at)...)
	p := made(t, d, 2)
	got, pages, _ := over.Read(p, 5, 1500)
	for i, b := range payloads(mixed(1500, 48), at) {
		p.Write(at[i], page.Over, b)
	}
	reads(t, p, mixed(1500, 48), at)
	p.Forget(5)
	p.Forget(3)
	d.Cut()
	if !bytes.Equal(got, value) || !slices.Equal(pages, at) {
		t.Error("what was told has changed")
	}
	reads(t, p, value, at)
}

// TestReadChangesNothingOfTheDisk: neither what lasts nor what waits.
func TestReadChangesNothingOfTheDisk(t *testing.T) {
	value, at := mixed(2500, 49), []uint32{5, 3, 6}
	d := loaded(t, 9, sheets(value, at)...)
	d.Write(7, make([]byte, 128))
	image, pending := d.Image(), d.Pending()
	p := made(t, d, 2)
	reads(t, p, value, at)
	refusesRead(t, p, 5, 2499, api.ErrOverForm)
	refusesRead(t, p, 4, 2500, api.ErrPoolForm)
	if !bytes.Equal(d.Image(), image) || !slices.Equal(d.Pending(), pending) {
		t.Error("a read has changed the disk")
	}
}

// TestPoolsKnowNothingOfOneAnother: a value that is read from one disk is not told of another one.
func TestPoolsKnowNothingOfOneAnother(t *testing.T) {
	at := []uint32{5, 3}
	c, d := loaded(t, 9, sheets(mixed(1500, 50), at)...), loaded(t, 9, sheets(mixed(1500, 51), at)...)
	one, two := made(t, c, 4), made(t, d, 4)
	for range 2 {
		reads(t, one, mixed(1500, 50), at)
		reads(t, two, mixed(1500, 51), at)
	}
	c.Trip(0)
	one.Forget(3)
	refusesRead(t, one, 5, 1500, api.ErrDark)
	two.Forget(3)
	reads(t, two, mixed(1500, 51), at)
}
