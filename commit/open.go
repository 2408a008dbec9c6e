package commit

import (
	"errors"

	"codicil/api"
	"codicil/disk"
	"codicil/free"
	"codicil/page"
	"codicil/tree"
)

// Open is the one that a disk has.
func Open(d *disk.Disk) (*Store, api.Errno) {
	if d.Pages() < firstPage {
		return nil, api.ErrCommitNone
	}
	s, err := newStore(d)
	if err != api.OK {
		return nil, err
	}
	o := newOpening(s)
	row := append([]step{{"read the states", o.readStates}}, o.looks()...)
	if err := refusal(run(row)); err != api.OK {
		return nil, err
	}
	s.newest = o.state
	if err := s.spare(); err != api.OK {
		return nil, err
	}
	return s, api.OK
}

// opening looks at a state: only one that is right becomes a store's.
type opening struct {
	store *Store
	state *state
	free  []uint32 // what the list has
}

func newOpening(s *Store) *opening { return &opening{store: s, state: &state{}} }

// looks are the steps that look whether its state is right.
func (o *opening) looks() []step {
	return []step{
		{"look at the size", o.lookAtSize},
		{"walk the tree", o.walkTree},
		{"read the list", o.readList},
		{"look for each page", o.lookForPages},
	}
}

// spare keeps the pages of the state that would count if all that the disk has not yet synced were lost: where that is another one than the newest, its pages must outlive the next changes.
func (s *Store) spare() api.Errno {
	image := s.disk.Image()
	meta, err := page.Best(image[:api.PageSize], image[api.PageSize:2*api.PageSize])
	if err != api.OK || meta == s.newest.meta {
		return api.OK
	}
	o := newOpening(s)
	o.state.meta = meta
	switch err := refusal(run(o.looks())); err {
	case api.OK:
		s.spared = o.state.pages()
	case api.ErrCommitCorrupt: // it could not be opened in any case
	default:
		return err
	}
	return api.OK
}

// refusal is what Open tells of an error: all that does not come of the disk, nor says that no state is there, is about a state that is not right.
func refusal(err error) api.Errno {
	if err == nil {
		return api.OK
	}
	for _, number := range []api.Errno{api.ErrDark, api.ErrIO, api.ErrCommitNone} {
		if errors.Is(err, number) {
			return number
		}
	}
	return api.ErrCommitCorrupt
}

func (o *opening) readStates() api.Errno {
	a, err := o.store.disk.Read(0)
	if err != api.OK {
		return err
	}
	b, err := o.store.disk.Read(1)
	if err != api.OK {
		return err
	}
	o.state.meta, err = page.Best(a, b)
	return err
}

func (o *opening) lookAtSize() api.Errno {
	if int(o.state.meta.Pages) > o.store.disk.Pages() {
		return api.ErrCommitCorrupt
	}
	return api.OK
}

func (o *opening) walkTree() api.Errno {
	pages, keys, err := tree.Walk(o.store.pool, o.state.meta.Root)
	if err != api.OK {
		return err
	}
	if uint64(keys) != o.state.meta.Keys {
		return api.ErrCommitCorrupt
	}
	o.state.tree = setOf(pages)
	return api.OK
}

// readList ends, as a page that comes again is refused.
func (o *opening) readList() api.Errno {
	for number := o.state.meta.Free; number != 0; {
		if o.state.listed.has(number) {
			return api.ErrCommitCorrupt
		}
		o.state.listed = o.state.listed.with(setOf([]uint32{number}))
		next, part, err := o.readPart(number)
		if err != api.OK {
			return err
		}
		if len(o.free) > 0 && len(part) > 0 && part[0] <= o.free[len(o.free)-1] {
			return api.ErrCommitCorrupt
		}
		o.free = append(o.free, part...)
		number = next
	}
	return api.OK
}

func (o *opening) readPart(number uint32) (uint32, []uint32, api.Errno) {
	kind, payload, err := o.store.pool.Read(number)
	if err != api.OK {
		return 0, nil, err
	}
	if kind != page.Free {
		return 0, nil, api.ErrCommitCorrupt
	}
	return free.Decode(payload)
}

// lookForPages: as all three together are just the file's pages, and no more by their number, none is in two of them, nor beyond the file.
func (o *opening) lookForPages() api.Errno {
	all := fileOf(int(o.state.meta.Pages))
	there := o.state.tree.with(o.state.listed).with(setOf(o.free))
	if there != all || o.state.tree.count()+o.state.listed.count()+len(o.free) != all.count() {
		return api.ErrCommitCorrupt
	}
	return api.OK
}
