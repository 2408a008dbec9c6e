package tree

import (
	"maps"
	"slices"

	"codicil/api"
	"codicil/node"
	"codicil/over"
	"codicil/page"
)

// firstPage is the first that a tree may stand on: those below it have the states of the file.
const firstPage = 2

// piece is what is new in a draft: a node, or a great value.
type piece struct {
	node  api.Node
	great []byte
}

func (p piece) isGreat() bool { return len(p.great) > 0 }

func (p piece) need() int {
	if p.isGreat() {
		return over.Need(len(p.great))
	}
	return 1
}

// payloads are the bytes of a piece on these pages. What its entries name is told by where.
func (p piece) payloads(at []uint32, where func(uint32) uint32) ([][]byte, api.Errno) {
	if p.isGreat() {
		l, err := over.Encode(p.great, at)
		return l, told(err)
	}
	n := api.Node{Leaf: p.node.Leaf, Entries: slices.Clone(p.node.Entries)}
	for i := range n.Entries {
		n.Entries[i].Page = where(n.Entries[i].Page)
	}
	b, err := node.Encode(n)
	return [][]byte{b}, told(err)
}

func (p piece) kind() uint8 {
	switch {
	case p.isGreat():
		return page.Over
	case p.node.Leaf:
		return page.Leaf
	default:
		return page.Branch
	}
}

// mayTake says whether a tree may stand on these pages.
func mayTake(at []uint32) bool {
	sorted := slices.Sorted(slices.Values(at))
	if len(sorted) == 0 {
		return true
	}
	return sorted[0] >= firstPage && sorted[len(sorted)-1] < api.MaxPages && len(slices.Compact(sorted)) == len(at)
}

// places are the pages that each piece is given, by its number.
type places map[uint32][]uint32

// give goes through the pieces by their numbers, so that the same pages always have the same bytes.
func (d *Draft) give(at []uint32) places {
	given := places{}
	for _, number := range d.numbers() {
		need := d.fresh[number].need()
		given[number], at = at[:need], at[need:]
	}
	return given
}

func (d *Draft) numbers() []uint32 { return slices.Sorted(maps.Keys(d.fresh)) }

// first is where that stands which an entry names; what is not new names its page itself.
func (l places) first(number uint32) uint32 {
	if at, ok := l[number]; ok {
		return at[0]
	}
	return number
}

// sheet is a page that is to be written.
type sheet struct {
	number  uint32
	kind    uint8
	payload []byte
}

func (d *Draft) sheets(given places) ([]sheet, api.Errno) {
	var out []sheet
	for _, number := range d.numbers() {
		p := d.fresh[number]
		l, err := p.payloads(given[number], given.first)
		if err != api.OK {
			return nil, err
		}
		for i, payload := range l {
			out = append(out, sheet{given[number][i], p.kind(), payload})
		}
	}
	return out, api.OK
}
