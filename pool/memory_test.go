package pool_test

import (
	"bytes"
	"testing"

	"codicil/api"
	"codicil/page"
	"codicil/pool"
)

// withRoom is b with other bytes in the room behind it.
func withRoom(b []byte, room int) []byte {
	out := append(bytes.Clone(b), bytes.Repeat([]byte{'!'}, room)...)
	return out[:len(b):len(out)]
}

// spoil writes into all memory that a list has, also into the room behind it.
func spoil(b []byte) {
	for at := range b[:cap(b)] {
		b[:cap(b)][at] ^= 0x5a
	}
}

func TestWriteNeitherChangesNorKeepsItsPayload(t *testing.T) {
	for _, length := range []int{0, 1, 2, 500, 1007, 1008} {
		for _, room := range []int{0, 1, 8, 2000} {
			d := lettered(t, 3)
			p := made(t, d, 1)
			want := mixed(length, uint32(room))
			given := withRoom(want, room)
			all := bytes.Clone(given[:cap(given)])
			writes(t, p, 1, page.Over, given)
			reads(t, p, 1, page.Over, want)
			if !bytes.Equal(given[:cap(given)], all) {
				t.Error("what was handed in has changed")
			}
			spoil(given)
			reads(t, p, 1, page.Over, want)
			stands(t, d, 1, page.Over, want)
			p.Forget(1)
			reads(t, p, 1, page.Over, want)
		}
	}
}

// TestWriteOverWhatIsAtHandKeepsNothing: neither of the payload ahead nor of that one's memory.
func TestWriteOverWhatIsAtHandKeepsNothing(t *testing.T) {
	p := made(t, lettered(t, 3), 2)
	long, short := bytes.Repeat([]byte("l"), 300), []byte("short")
	one, two := withRoom(long, 50), withRoom(short, 400)
	writes(t, p, 1, page.Leaf, one)
	writes(t, p, 1, page.Branch, two)
	if !bytes.Equal(one, long) || !bytes.Equal(two, short) {
		t.Error("what was handed in has changed")
	}
	spoil(one)
	spoil(two)
	reads(t, p, 1, page.Branch, short)
	writes(t, p, 1, page.Leaf, long)
	reads(t, p, 1, page.Leaf, long)
}

func TestWriteThatIsRefusedOrFailsChangesNoArgument(t *testing.T) {
	d := lettered(t, 3)
	p := made(t, d, 2)
	given := withRoom(mixed(1008, 1), 10)
	all := bytes.Clone(given[:cap(given)])
	p.Write(1, 5, given)
	p.Write(3, 1, given)
	p.Write(1, 1, given[:1009])
	d.Fail(kindWrite, 0)
	p.Write(1, 1, given)
	if !bytes.Equal(given[:cap(given)], all) {
		t.Error("what was handed in has changed")
	}
	spoil(given)
	readsLetter(t, p, 1)
}

func TestRoomBehindAPayloadIsNotRead(t *testing.T) {
	p := made(t, lettered(t, 3), 2)
	writes(t, p, 1, page.Leaf, withRoom(mixed(1008, 1), 1))
	refusesWrite(t, p, 1, page.Leaf, withRoom(mixed(1009, 1), 1), api.ErrPageForm)
	reads(t, p, 1, page.Leaf, mixed(1008, 1))
	for _, none := range [][]byte{nil, {}, withRoom(nil, 20)} {
		writes(t, p, 1, page.Leaf, none)
		reads(t, p, 1, page.Leaf, nil)
		p.Forget(1)
		reads(t, p, 1, page.Leaf, nil)
	}
}

// TestWhatReadToldIsNewMemory: answers of a page that came in by a read, that was at hand, and that was written are spoilt in turn.
func TestWhatReadToldIsNewMemory(t *testing.T) {
	for _, length := range []int{0, 1, 7, 500, 1008} {
		want := mixed(length, 9)
		for _, byWrite := range []bool{false, true} {
			d := lettered(t, 3)
			d.Write(1, sealed(t, page.Free, 1, want))
			p := made(t, d, 2)
			if byWrite {
				writes(t, p, 1, page.Free, want)
			}
			var told [][]byte
			for range 4 {
				_, b, _ := p.Read(1)
				told = append(told, b)
			}
			for at, b := range told {
				if !bytes.Equal(b, want) {
					t.Errorf("answer %d shares memory with one ahead of it", at)
				}
				spoil(b)
				reads(t, p, 1, page.Free, want)
			}
			p.Forget(1)
			reads(t, p, 1, page.Free, want)
			stands(t, d, 1, page.Free, want)
		}
	}
}

// TestRoomBehindWhatReadToldIsNobodysElse adds to answers, which may take the room behind them.
func TestRoomBehindWhatReadToldIsNobodysElse(t *testing.T) {
	p := made(t, lettered(t, 3), 2)
	_, first, _ := p.Read(1)
	_, second, _ := p.Read(1)
	one, two := append(first, "one"...), append(second, "two"...)
	if string(one) != text(1)+"one" || string(two) != text(1)+"two" {
		t.Errorf("room is shared: %q, %q", one, two)
	}
	readsLetter(t, p, 1, 2)
}

func TestWhatReadToldStaysAsItWas(t *testing.T) {
	d := lettered(t, 3)
	p := made(t, d, 1)
	_, came, _ := p.Read(1)
	_, athand, _ := p.Read(1)
	writes(t, p, 1, page.Leaf, []byte("PAGE B"))
	_, written, _ := p.Read(1)
	writes(t, p, 1, page.Leaf, []byte("page x"))
	readsLetter(t, p, 2)
	p.Forget(2)
	p.Sync()
	d.Cut()
	if string(came) != text(1) || string(athand) != text(1) || string(written) != "PAGE B" {
		t.Errorf("what was told has changed: %q, %q, %q", came, athand, written)
	}
}

func TestPoolsKnowNothingOfOneAnother(t *testing.T) {
	c, d := lettered(t, 4), lettered(t, 4)
	one, two := made(t, c, 2), made(t, d, 2)
	readsLetter(t, one, 0, 1)
	hasJust(t, two)
	counts(t, d, 0, 0, 0)
	readsLetter(t, two, 2, 3)
	writes(t, one, 2, page.Leaf, []byte("new"))
	hasJust(t, one, 1, 2)
	hasJust(t, two, 2, 3)
	readsLetter(t, two, 2, 3)
	two.Forget(2)
	hasJust(t, one, 1, 2)
	readsLetter(t, two, 2)
	c.Trip(0)
	answers(t, "a sync in the dark", one.Sync(), api.ErrDark)
	answers(t, "a sync of another disk", two.Sync(), api.OK)
	writes(t, two, 1, page.Leaf, []byte("two"))
	readsLetter(t, one, 1)
	reads(t, one, 2, page.Leaf, []byte("new"))
	counts(t, c, 2, 1, 0)
	counts(t, d, 3, 1, 1)
}

// TestAPoolThatIsRefusedLeavesOthers: New with an error changes neither the disk nor a pool of it.
func TestAPoolThatIsRefusedLeavesOthers(t *testing.T) {
	d := lettered(t, 4)
	p := made(t, d, 2)
	readsLetter(t, p, 0, 1)
	pool.New(d, 0)
	pool.New(d, -5)
	hasJust(t, p, 0, 1)
	counts(t, d, 2, 0, 0)
}
