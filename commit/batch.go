package commit

import (
	"slices"

	"codicil/api"
	"codicil/free"
	"codicil/page"
	"codicil/tree"
)

// batch is changes on their way to a new state. Nothing that the store tells is changed by it, so that it may end anywhere.
type batch struct {
	store          *Store
	changes        []api.Change
	draft          *tree.Draft
	room           []uint32 // that may still be taken, the next one first
	treeAt, listAt []uint32 // that were taken for the tree, and for the list
	next           *state
}

func (b *batch) look() api.Errno {
	switch {
	case slices.ContainsFunc(b.changes, hasWrongKey):
		return api.ErrKeyLong
	case slices.ContainsFunc(b.changes, hasLongValue):
		return api.ErrDocLong
	case b.store.broken:
		return api.ErrCommitBroken
	case b.store.newest.meta.Generation == api.MaxCount:
		return api.ErrRange
	}
	return api.OK
}

func hasWrongKey(c api.Change) bool { return len(c.Key) == 0 || len(c.Key) > api.MaxKey }

func hasLongValue(c api.Change) bool { return !c.Delete && len(c.Value) > api.MaxValue }

func (b *batch) draftTree() api.Errno {
	draft, err := tree.Edit(b.store.pool, b.store.newest.meta.Root, b.changes)
	b.draft = draft
	return err
}

// takePages finds room for all that is to be written, so that what comes behind it can fail by the disk alone.
func (b *batch) takePages() api.Errno {
	old := b.store.newest
	b.room = b.store.room()
	b.next.meta = api.Meta{
		Generation: old.meta.Generation + 1,
		Pages:      old.meta.Pages,
		Keys:       uint64(int(old.meta.Keys) + b.draft.More()),
	}
	var err api.Errno
	if b.treeAt, err = b.take(b.draft.Need()); err != api.OK {
		return err
	}
	b.next.tree = old.tree.without(setOf(b.draft.Gone())).with(setOf(b.treeAt))
	return b.takeList()
}

// takeList takes pages one by one, as each that was free makes the list shorter. So the last one may be more than the list needs, but no other is.
func (b *batch) takeList() api.Errno {
	for len(b.listAt) < free.Need(b.unused().count()) {
		at, err := b.take(1)
		if err != api.OK {
			return err
		}
		b.listAt = append(b.listAt, at...)
		b.next.listed = setOf(b.listAt)
	}
	return api.OK
}

func (b *batch) take(count int) ([]uint32, api.Errno) {
	if count > len(b.room) {
		return nil, api.ErrFull
	}
	taken := b.room[:count]
	b.room = b.room[count:]
	for _, number := range taken {
		b.next.meta.Pages = max(b.next.meta.Pages, number+1)
	}
	return taken, api.OK
}

// unused are the pages of the new state that it lists: those that it has neither for its tree nor for the list itself.
func (b *batch) unused() pageSet {
	return fileOf(int(b.next.meta.Pages)).without(b.next.tree).without(b.next.listed)
}

// settle is for pages of a state that may come back: ahead of their being written the newest state must last. It is written again, as a cut may have taken it since.
func (b *batch) settle() api.Errno {
	s := b.store
	if !slices.ContainsFunc(slices.Concat(b.treeAt, b.listAt), s.spared.has) {
		return api.OK
	}
	if err := s.writeNewest(); err != api.OK {
		return err
	}
	if err := s.disk.Sync(); err != api.OK {
		return err
	}
	s.spared = pageSet{}
	return api.OK
}

func (b *batch) writeTree() api.Errno {
	root, err := b.draft.Write(b.store.pool, b.treeAt)
	b.next.meta.Root = root
	return err
}

func (b *batch) writeList() api.Errno {
	payloads, err := free.Encode(b.unused().numbers(), b.listAt)
	if err != api.OK {
		return err
	}
	for i, payload := range payloads {
		if err := b.store.pool.Write(b.listAt[i], page.Free, payload); err != api.OK {
			return err
		}
	}
	if len(b.listAt) > 0 {
		b.next.meta.Free = b.listAt[0]
	}
	return api.OK
}

func (b *batch) writeState() api.Errno { return b.store.putMeta(b.next.meta) }
