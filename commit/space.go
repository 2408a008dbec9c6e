package commit

import "codicil/api"

// Space is how the file's pages are used.
func (s *Store) Space() api.Space {
	out := api.Space{
		Pages:   s.disk.Pages(),
		Tree:    s.newest.tree.count(),
		Listed:  s.newest.listed.count(),
		Free:    s.takeable().count(),
		Keys:    int(s.newest.meta.Keys),
		Broken:  s.broken,
		Current: s.newest.meta.Generation,
	}
	out.Held = out.Pages - firstPage - out.Tree - out.Listed - out.Free
	for _, r := range s.read {
		out.Snaps += r.snaps
	}
	return out
}

// takeable are the pages that may be taken: those that neither the newest state nor a snapshot needs.
func (s *Store) takeable() pageSet {
	out := fileOf(s.disk.Pages()).without(s.newest.pages())
	for _, r := range s.read {
		out = out.without(r.state.pages())
	}
	return out
}

// room is what may be taken, in the order in which it is: what is to be spared comes last.
func (s *Store) room() []uint32 {
	all := s.takeable()
	first := all.without(s.spared)
	return append(first.numbers(), all.without(first).numbers()...)
}
