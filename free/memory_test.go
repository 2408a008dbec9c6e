package free_test

import (
	"bytes"
	"slices"
	"testing"

	"codicil/api"
	"codicil/free"
)

// withRoom is a list with other things in the room behind it.
func withRoom[T any](list []T, room int, other T) []T {
	out := slices.Clone(list)
	for range room {
		out = append(out, other)
	}
	return out[:len(list):len(out)]
}

// spoil writes into all memory that a list has, also into the room behind it.
func spoil[T byte | uint32](list []T) {
	for at := range list[:cap(list)] {
		list[:cap(list)][at] ^= 0x5a
	}
}

func whole[T any](list []T) []T { return slices.Clone(list[:cap(list)]) }

func TestEncodeNeitherChangesNorKeepsWhatIsHandedIn(t *testing.T) {
	for _, count := range []int{0, 1, 250, 251, 252, 502, 503} {
		for more := range 2 {
			want, _ := free.Encode(from(2, count), from(900, free.Need(count)+more))
			pages, at := withRoom(from(2, count), 300, greatest), withRoom(from(900, free.Need(count)+more), 5, greatest)
			allPages, allAt := whole(pages), whole(at)
			got, err := free.Encode(pages, at)
			if err != api.OK || !slices.EqualFunc(got, want, bytes.Equal) {
				t.Errorf("%d pages with room behind them: %v", count, err)
			}
			if !slices.Equal(whole(pages), allPages) || !slices.Equal(whole(at), allAt) {
				t.Error("what was handed in has changed")
			}
			spoil(pages)
			spoil(at)
			if !slices.EqualFunc(got, want, bytes.Equal) {
				t.Error("what was handed in was kept")
			}
		}
	}
}

func TestARefusedEncodeChangesNothing(t *testing.T) {
	for _, last := range []uint32{2, 0, greatest} {
		pages, at := withRoom(append(from(2, 300), last), 9, 7), withRoom([]uint32{20, 21, 1, 30}, 9, 7)
		allPages, allAt := whole(pages), whole(at)
		refusesEncode(t, pages, at)
		refusesEncode(t, pages, at[:2])
		if !slices.Equal(whole(pages), allPages) || !slices.Equal(whole(at), allAt) {
			t.Error("what was handed in has changed")
		}
	}
}

// TestPayloadsShareNoMemory: each is spoilt in turn with its room, and all others stay, as does what a later call tells.
func TestPayloadsShareNoMemory(t *testing.T) {
	pages, at := from(2, 600), from(900, 4)
	want, _ := free.Encode(pages, at)
	one, _ := free.Encode(pages, at)
	two, _ := free.Encode(pages, at)
	both := slices.Concat(one, two)
	for i, b := range both {
		if !bytes.Equal(b, want[i%4]) {
			t.Errorf("payload %d shares memory with one ahead of it", i)
		}
		spoil(b)
	}
	one[0], one[1] = nil, nil
	if two[0] == nil || two[1] == nil {
		t.Error("two answers are one list")
	}
	encodes(t, pages, at, want...)
}

func TestDecodeNeitherChangesNorKeepsItsPayload(t *testing.T) {
	for _, count := range []int{0, 1, 2, 250, 251} {
		want := from(2, count)
		b := withRoom(payload(9, want...), 50, 0xee)
		all := whole(b)
		next, got, err := free.Decode(b)
		if !bytes.Equal(whole(b), all) {
			t.Error("what was handed in has changed")
		}
		spoil(b)
		if next != 9 || !slices.Equal(got, want) || err != api.OK {
			t.Errorf("%d, %d, %v, not %d", next, got, err, want)
		}
	}
	b := withRoom(payload(9, 3, 3), 50, 0xee)
	all := whole(b)
	refusesDecode(t, b)
	if !bytes.Equal(whole(b), all) {
		t.Error("what was handed in has changed")
	}
}

// TestRoomBehindAPayloadIsNotRead, neither where a page more would fit nor where it would make a length right.
func TestRoomBehindAPayloadIsNotRead(t *testing.T) {
	long := payload(9, from(3, 251)...)
	for length := range len(long) {
		if length < 4 || length%4 != 0 {
			refusesDecode(t, long[:length])
		} else {
			decodes(t, long[:length], 9, from(3, length/4-1)...)
		}
	}
}

func TestWhatDecodeToldIsNewMemory(t *testing.T) {
	b := payload(9, from(2, 100)...)
	_, one, _ := free.Decode(b)
	_, two, _ := free.Decode(b)
	spoil(one)
	if !slices.Equal(two, from(2, 100)) {
		t.Error("two answers share memory")
	}
	spoil(two)
	decodes(t, b, 9, from(2, 100)...)
}

// TestWhatAllToldIsNewMemory: spoilt with its room it changes nothing of the list, of a clone, or of another answer.
func TestWhatAllToldIsNewMemory(t *testing.T) {
	l := listOf(t, freed{5, 5}, freed{6, 4}, freed{7, 3}, freed{80, 2}, freed{900, 1})
	want := []uint32{5, 6, 7, 80, 900}
	c := l.Clone()
	one, two, three := l.All(), l.All(), c.All()
	spoil(one)
	if !slices.Equal(two, want) || !slices.Equal(three, want) {
		t.Error("two answers share memory")
	}
	spoil(two)
	spoil(three)
	hasJust(t, l, want...)
	hasJust(t, c, want...)
	takes(t, l, 3, 7, 80, 900)
	takes(t, c, 5, want...)
}

func TestWhatAllToldStaysAsItWas(t *testing.T) {
	l := listOf(t, freed{5, 5}, freed{6, 4}, freed{7, 3})
	told := l.All()
	takes(t, l, 5, 5, 6)
	adds(t, l, freed{2, 1}, freed{3, 1}, freed{4, 9})
	takes(t, l, 1, 2)
	if !slices.Equal(told, []uint32{5, 6, 7}) {
		t.Errorf("what was told has changed: %d", told)
	}
}
