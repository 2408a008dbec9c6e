package tree

import (
	"bytes"
	"slices"

	"codicil/api"
	"codicil/node"
	"codicil/pool"
)

const (
	// room is how many bytes of a node a page has room for.
	room = 1008
	// thin is what a node must have, or it is joined with one beside it. No single entry comes to it, so that each leaf but a root has two keys and each branch two kids: of n keys there are fewer leaves and branches than n.
	thin = room / 4
)

// editor makes changes in a draft, one behind the other.
type editor struct {
	draft *Draft
	pool  *pool.Pool
	next  uint32 // the number of what is new next
	far   int    // how many pages below the root the leaves are at most, behind a change
}

// newEditor numbers what is new from the first number on that no page can have.
func newEditor(p *pool.Pool, root uint32) *editor {
	d := &Draft{root: root, fresh: map[uint32]piece{}, gone: map[uint32]struct{}{}}
	return &editor{draft: d, pool: p, next: api.MaxPages}
}

func hasWrongKey(c api.Change) bool { return len(c.Key) == 0 || len(c.Key) > api.MaxKey }

func hasLongValue(c api.Change) bool { return !c.Delete && len(c.Value) > api.MaxValue }

// lastOfEach are the changes that count, by rising keys: whatever comes ahead of a key's last change, that one alone says what becomes of it.
func lastOfEach(l []api.Change) []api.Change {
	sorted := slices.Clone(l)
	slices.SortStableFunc(sorted, func(a, b api.Change) int { return bytes.Compare(a.Key, b.Key) })
	var out []api.Change
	for at, c := range sorted {
		if at+1 == len(sorted) || !bytes.Equal(sorted[at+1].Key, c.Key) {
			out = append(out, c)
		}
	}
	return out
}

func (e *editor) change(c api.Change) api.Errno {
	n, changed, err := e.below(e.draft.root, 0, c)
	if err != api.OK || !changed {
		return err
	}
	if err := e.leave(e.draft.root); err != api.OK {
		return err
	}
	e.plant(n)
	if e.far > height {
		return e.rebuild()
	}
	return api.OK
}

// below is what a node becomes by a change of a key below it, and whether it does. It may have become of any size: whoever has it above puts that right.
func (e *editor) below(number uint32, level int, c api.Change) (api.Node, bool, api.Errno) {
	if level > height {
		return api.Node{}, false, api.ErrTreeForm
	}
	n, err := e.look(number)
	if err != api.OK {
		return api.Node{}, false, err
	}
	if n.Leaf {
		e.far = level
		return e.leaf(n, c)
	}
	at, _ := node.Find(n, c.Key)
	kid, changed, err := e.below(n.Entries[at].Page, level+1, c)
	if err != api.OK || !changed {
		return n, false, err
	}
	n, err = e.settle(n, at, kid)
	return n, true, err
}

func (e *editor) leaf(n api.Node, c api.Change) (api.Node, bool, api.Errno) {
	at, is := node.Find(n, c.Key)
	if is {
		if err := e.leaveValue(n.Entries[at]); err != api.OK {
			return api.Node{}, false, err
		}
		e.draft.more--
	}
	if c.Delete {
		n, _ = node.Drop(n, c.Key)
		return n, is, api.OK
	}
	e.draft.more++
	return node.Put(n, e.entry(c)), true, api.OK
}

func (e *editor) entry(c api.Change) api.Entry {
	if len(c.Value) <= api.MaxInline {
		return api.Entry{Key: c.Key, Value: c.Value}
	}
	number := e.add(piece{great: bytes.Clone(c.Value)})
	return api.Entry{Key: c.Key, Page: number, Size: uint32(len(c.Value))}
}

// settle puts a kid that has changed back into its branch: in parts, if it is too long, with the one beside it, if it is thin, and not at all, if nothing is left of it.
func (e *editor) settle(n api.Node, at int, kid api.Node) (api.Node, api.Errno) {
	if err := e.leave(n.Entries[at].Page); err != api.OK {
		return api.Node{}, err
	}
	from, to := at, at+1
	if isThin(kid) && len(n.Entries) > 1 {
		from = max(at-1, 0)
		to = from + 2
		joined, err := e.join(n.Entries[from:to], at-from, kid)
		if err != api.OK {
			return api.Node{}, err
		}
		kid = joined
	}
	parts := e.lay(kid)
	if len(parts) > 0 {
		parts[0].Key = n.Entries[from].Key
	}
	n.Entries = slices.Replace(n.Entries, from, to, parts...)
	if len(n.Entries) > 0 {
		n.Entries[0].Key = nil
	}
	return n, api.OK
}

func isThin(n api.Node) bool { return len(n.Entries) > 0 && node.Size(n) < thin }

// join is a kid with the one beside it; which of the two in their branch it is, is told.
func (e *editor) join(pair []api.Entry, which int, kid api.Node) (api.Node, api.Errno) {
	number := pair[1-which].Page
	other, err := e.look(number)
	if err != api.OK {
		return api.Node{}, err
	}
	if err := e.leave(number); err != api.OK {
		return api.Node{}, err
	}
	if other.Leaf != kid.Leaf {
		return api.Node{}, api.ErrTreeForm
	}
	if which == 0 {
		return node.Join(kid, other, pair[1].Key), api.OK
	}
	return node.Join(other, kid, pair[1].Key), api.OK
}

// plant makes a node the root, with branches above it, if it is too long; a branch of one kid gives way to it.
func (e *editor) plant(n api.Node) {
	if !n.Leaf && len(n.Entries) == 1 {
		e.draft.root = n.Entries[0].Page
		return
	}
	top := e.lay(n)
	for len(top) > 1 {
		top = e.lay(api.Node{Entries: top})
		e.far++
	}
	e.draft.root = 0
	if len(top) > 0 {
		e.draft.root = top[0].Page
	}
}

// rebuild makes all leaves and branches anew. Only a tree that did not come of Edits is so high with so few keys that it must be.
func (e *editor) rebuild() api.Errno {
	l, err := e.gather(e.draft.root)
	if err != api.OK {
		return err
	}
	e.plant(api.Node{Leaf: true, Entries: l})
	return api.OK
}

// gather ends, as leave takes each page once at most.
func (e *editor) gather(number uint32) ([]api.Entry, api.Errno) {
	n, err := e.look(number)
	if err != api.OK {
		return nil, err
	}
	if err := e.leave(number); err != api.OK || n.Leaf {
		return n.Entries, err
	}
	var out []api.Entry
	for _, kid := range n.Entries {
		l, err := e.gather(kid.Page)
		if err != api.OK {
			return nil, err
		}
		out = append(out, l...)
	}
	return out, api.OK
}
