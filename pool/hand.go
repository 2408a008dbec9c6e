package pool

import "bytes"

// links hold a sheet between the one that was used just before it and the one that was used just after it.
type links struct {
	elder, younger *sheet
}

// sheet is a page that is at hand.
type sheet struct {
	links
	number  uint32
	kind    uint8
	payload []byte
}

// hand is the sheets, at most so many. They hang in a ring, from the one that was used longest ago to the one that was used last; an end without a page closes it, so that no sheet is without neighbours.
type hand struct {
	most  int
	found map[uint32]*sheet
	end   *sheet
}

func newHand(most int) hand {
	end := &sheet{}
	end.elder, end.younger = end, end
	return hand{most: most, found: map[uint32]*sheet{}, end: end}
}

// take brings a page in that is not at hand, as the one that was used last.
func (h *hand) take(number uint32, kind uint8, payload []byte) {
	if len(h.found) == h.most {
		h.drop(h.end.younger.number)
	}
	s := &sheet{number: number, kind: kind, payload: bytes.Clone(payload)}
	s.hang(h.end)
	h.found[number] = s
}

func (h *hand) use(s *sheet) {
	s.leave()
	s.hang(h.end)
}

func (h *hand) drop(number uint32) {
	if s, ok := h.found[number]; ok {
		s.leave()
		delete(h.found, number)
	}
}

// hang puts a sheet just ahead of the end.
func (s *sheet) hang(end *sheet) {
	s.elder, s.younger = end.elder, end
	s.elder.younger, s.younger.elder = s, s
}

func (l *links) leave() {
	l.elder.younger, l.younger.elder = l.younger, l.elder
}
