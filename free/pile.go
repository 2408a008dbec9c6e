package free

import "container/heap"

// freePage is a page of a list.
type freePage struct {
	number     uint32
	generation uint64
}

// pile is a heap of pages whose first one is at hand.
type pile struct {
	pages  []freePage
	before func(i, j int) bool
}

// newWaiting is a pile whose first page is one that will be ready soonest.
func newWaiting() *pile {
	p := &pile{}
	p.before = p.byGeneration
	return p
}

// newReady is a pile whose first page is the one to be taken next.
func newReady() *pile {
	p := &pile{}
	p.before = p.byNumber
	return p
}

func (p *pile) byGeneration(i, j int) bool { return p.pages[i].generation < p.pages[j].generation }

func (p *pile) byNumber(i, j int) bool { return p.pages[i].number < p.pages[j].number }

func (p *pile) first() freePage { return p.pages[0] }

func (p *pile) put(f freePage) { heap.Push(p, f) }

func (p *pile) takeFirst() freePage { return heap.Pop(p).(freePage) }

func (p *pile) countUpTo(generation uint64) int {
	n := 0
	for _, f := range p.pages {
		if f.generation <= generation {
			n++
		}
	}
	return n
}

// Len, Less, Swap, Push and Pop are what container/heap asks for.

func (p *pile) Len() int { return len(p.pages) }

func (p *pile) Less(i, j int) bool { return p.before(i, j) }

func (p *pile) Swap(i, j int) { p.pages[i], p.pages[j] = p.pages[j], p.pages[i] }

func (p *pile) Push(x any) { p.pages = append(p.pages, x.(freePage)) }

func (p *pile) Pop() any {
	last := len(p.pages) - 1
	f := p.pages[last]
	p.pages = p.pages[:last]
	return f
}
