package tree

import (
	"codicil/api"
	"codicil/node"
)

// look is a node, new or of the old tree. Of no root it is a leaf without keys.
func (e *editor) look(number uint32) (api.Node, api.Errno) {
	if number == 0 {
		return api.Node{Leaf: true}, api.OK
	}
	if p, ok := e.draft.fresh[number]; ok {
		return p.node, api.OK
	}
	return readNode(e.pool, number)
}

func (e *editor) add(p piece) uint32 {
	number := e.next
	e.next++
	e.draft.fresh[number] = p
	return number
}

// lay lays down a node, in as many parts as it takes, and tells their entries of the branch above; the key of the first one is that branch's to say.
func (e *editor) lay(n api.Node) []api.Entry {
	if len(n.Entries) == 0 {
		return nil
	}
	if node.Size(n) <= room {
		return []api.Entry{{Page: e.add(piece{node: n})}}
	}
	a, b, key := node.Halves(n)
	first, second := e.lay(a), e.lay(b)
	second[0].Key = key
	return append(first, second...)
}

// leave takes out of the tree what has that number. A page that is left twice was there twice.
func (e *editor) leave(number uint32) api.Errno {
	if number == 0 {
		return api.OK
	}
	if _, ok := e.draft.fresh[number]; ok {
		delete(e.draft.fresh, number)
		return api.OK
	}
	if _, twice := e.draft.gone[number]; twice {
		return api.ErrTreeForm
	}
	e.draft.gone[number] = struct{}{}
	return api.OK
}

// leaveValue reads a great value of the old tree, as only its pages tell one another.
func (e *editor) leaveValue(old api.Entry) api.Errno {
	if _, ok := e.draft.fresh[old.Page]; ok || old.Page == 0 {
		return e.leave(old.Page)
	}
	_, pages, err := readGreat(e.pool, old)
	if err != api.OK {
		return err
	}
	for _, number := range pages {
		if err := e.leave(number); err != api.OK {
			return err
		}
	}
	return api.OK
}
