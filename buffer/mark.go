package buffer

import (
	"slices"

	"codicil/api"
)

// Mark is how many Puts and Deletes there have been that were not gone back behind.
func (b *Buffer) Mark() int { return len(b.undos) }

// Back undoes what came behind a mark, the last first.
func (b *Buffer) Back(mark int) api.Errno {
	if mark < 0 || mark > b.Mark() {
		return api.ErrArg
	}
	for _, undo := range slices.Backward(b.undos[mark:]) {
		undo()
	}
	b.undos = slices.Delete(b.undos, mark, len(b.undos))
	return api.OK
}

// say takes a change in, and lays down what undoes it. That may name a place in the list: when it is done, all that came behind is undone already.
func (b *Buffer) say(c api.Change) {
	at, is := b.find(c.Key)
	if is {
		old := b.said[at]
		b.said[at] = c
		b.undos = append(b.undos, func() { b.said[at] = old })
		return
	}
	b.said = slices.Insert(b.said, at, c)
	b.undos = append(b.undos, func() { b.said = slices.Delete(b.said, at, at+1) })
}
