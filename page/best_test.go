package page_test

import (
	"bytes"
	"testing"

	"codicil/api"
	"codicil/page"
)

func isBest(t *testing.T, a, b []byte, want api.Meta) {
	t.Helper()
	if m, err := page.Best(a, b); err != api.OK || m != want {
		t.Errorf("Best tells %+v and %v, not %+v", m, err, want)
	}
}

func noBest(t *testing.T, a, b []byte, want api.Errno) {
	t.Helper()
	if m, err := page.Best(a, b); err != want || m != (api.Meta{}) {
		t.Errorf("Best tells %+v and %v, not %v", m, err, want)
	}
}

// inPage is a state's sector with bytes behind it that are no sector's business.
func inPage(m api.Meta) []byte { return append(sector(m), mixed(896, 10)...) }

// torn is a state's page of which one byte is another, behind its mark.
func torn(m api.Meta) []byte {
	b := inPage(m)
	b[50] ^= 4
	return b
}

func generation(n uint64) api.Meta {
	return api.Meta{Generation: n, Root: 2 + uint32(n%7), Pages: 20, Keys: 1 + n%100}
}

func TestBestOfTwoStates(t *testing.T) {
	for _, c := range []struct{ a, b uint64 }{{2, 1}, {2, 3}, {4, 1}, {4, 3}, {4, 5}, {100, 7}, {8, 9999}, {1 << 62, 1}, {1 << 62, 1<<62 - 1}, {2, 1<<62 - 1}, {1 << 32, 1<<32 + 1}, {1 << 32, 1}} {
		isBest(t, inPage(generation(c.a)), inPage(generation(c.b)), generation(max(c.a, c.b)))
	}
}

func TestBestTakesNoStateOfTheOtherPage(t *testing.T) {
	for _, even := range []uint64{2, 4, 100, 1 << 62} {
		for _, odd := range []uint64{1, 3, 101, 1<<62 - 1} {
			e, o := generation(even), generation(odd)
			isBest(t, inPage(e), inPage(o), generation(max(even, odd)))
			noBest(t, inPage(o), inPage(e), api.ErrCommitCorrupt)
			isBest(t, inPage(e), inPage(generation(even+2)), e)
			isBest(t, inPage(generation(odd+2)), inPage(o), o)
		}
	}
}

func TestBestOfOneState(t *testing.T) {
	noughts := make([]byte, 1024)
	for _, other := range [][]byte{nil, {}, noughts, mixed(1024, 11), []byte("CME"), []byte("CMET"), sector(api.Meta{Generation: 9})} {
		even, odd := generation(6), generation(5)
		isBest(t, inPage(even), other, even)
		isBest(t, sector(even), other, even)
		isBest(t, other, inPage(odd), odd)
		isBest(t, other, sector(odd), odd)
		noBest(t, inPage(odd), other, api.ErrCommitCorrupt)
		noBest(t, other, inPage(even), api.ErrCommitCorrupt)
	}
}

func TestBestOfTornStates(t *testing.T) {
	for _, c := range []struct{ a, b uint64 }{{6, 5}, {6, 7}, {2, 1001}} {
		a, b := generation(c.a), generation(c.b)
		isBest(t, torn(a), inPage(b), b)
		isBest(t, inPage(a), torn(b), a)
		noBest(t, torn(a), torn(b), api.ErrCommitCorrupt)
		noBest(t, torn(a), nil, api.ErrCommitCorrupt)
		noBest(t, nil, torn(b), api.ErrCommitCorrupt)
	}
}

// TestBestOfAStateWithoutItsMark holds the first four bytes: without them a page is not even one that is torn.
func TestBestOfAStateWithoutItsMark(t *testing.T) {
	even, odd := inPage(generation(6)), inPage(generation(5))
	for at := range 4 {
		noMark := func(b []byte) []byte { out := bytes.Clone(b); out[at] ^= 0x20; return out }
		noBest(t, noMark(even), noMark(odd), api.ErrCommitNone)
		isBest(t, noMark(even), odd, generation(5))
		isBest(t, even, noMark(odd), generation(6))
		noBest(t, noMark(even), torn(generation(5)), api.ErrCommitCorrupt)
	}
}

func TestBestOfNone(t *testing.T) {
	nothings := [][]byte{nil, {}, []byte("C"), []byte("CME"), make([]byte, 128), make([]byte, 1024), full(1024, 0xff), mixed(1024, 12), []byte("CMEt"), []byte("xCMET"), []byte("\x00CMET"), summed(make([]byte, 128))}
	marks := [][]byte{[]byte("CMET"), []byte("CMETs"), append([]byte("CMET"), make([]byte, 1020)...), sector(api.Meta{}), sector(api.Meta{Generation: 2}), sector(generation(6))[:127], sector(generation(5))[:4]}
	for _, a := range nothings {
		for _, b := range nothings {
			noBest(t, a, b, api.ErrCommitNone)
		}
		for _, b := range marks {
			noBest(t, a, b, api.ErrCommitCorrupt)
			noBest(t, b, a, api.ErrCommitCorrupt)
		}
	}
	for _, a := range marks {
		for _, b := range marks {
			noBest(t, a, b, api.ErrCommitCorrupt)
		}
	}
}

// TestBestDoesNotTakeStatesThatMayNotBe lays beside a right state one that is greater, has a right checksum, and is none.
func TestBestDoesNotTakeStatesThatMayNotBe(t *testing.T) {
	for _, wrong := range []api.Meta{
		{Generation: 1 << 63, Pages: 2}, {Generation: 1<<62 + 2, Pages: 2}, {Generation: 8, Pages: 1}, {Generation: 8, Pages: 16385},
		{Generation: 8, Pages: 5, Root: 5, Keys: 1}, {Generation: 8, Pages: 5, Free: 1}, {Generation: 8, Pages: 5, Root: 2, Free: 2, Keys: 1}, {Generation: 8, Pages: 5, Keys: 1},
	} {
		isBest(t, sector(wrong), sector(generation(3)), generation(3))
		noBest(t, sector(wrong), nil, api.ErrCommitCorrupt)
		wrong.Generation++
		isBest(t, sector(generation(4)), sector(wrong), generation(4))
		noBest(t, nil, sector(wrong), api.ErrCommitCorrupt)
	}
}
