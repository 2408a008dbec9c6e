package tree

import (
	"codicil/api"
	"codicil/node"
	"codicil/over"
	"codicil/pool"
)

// findLeaf is the leaf in which a key stands, if it is there. Pages that lead nowhere or round and round end at the height.
func findLeaf(p *pool.Pool, root uint32, key []byte) (api.Node, api.Errno) {
	number := root
	for range height + 1 {
		n, err := readNode(p, number)
		if err != api.OK || n.Leaf {
			return n, err
		}
		at, _ := node.Find(n, key)
		number = n.Entries[at].Page
	}
	return api.Node{}, api.ErrTreeForm
}

func readNode(p *pool.Pool, number uint32) (api.Node, api.Errno) {
	kind, payload, err := p.Read(number)
	if err != api.OK {
		return api.Node{}, told(err)
	}
	n, err := node.Decode(kind, payload)
	return n, told(err)
}

func readGreat(p *pool.Pool, e api.Entry) ([]byte, []uint32, api.Errno) {
	value, pages, err := over.Read(p, e.Page, e.Size)
	return value, pages, told(err)
}

// told is an error of the layers below as the tree tells it: that a page is not what it is to be says that the tree is none; all else comes of the disk.
func told(err api.Errno) api.Errno {
	switch err {
	case api.ErrRange, api.ErrPoolForm, api.ErrNodeForm, api.ErrOverForm:
		return api.ErrTreeForm
	}
	return err
}
