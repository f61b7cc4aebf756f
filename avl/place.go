package avl

import (
	"loft/api"
	"loft/node"
	"loft/store"
	"loft/walk"
)

// end is one of both sides.
type end int

const (
	left end = iota
	right
)

func (d end) other() end {
	return right - d
}

// place is a name, and the node that it names, whose fields are its own (all 0, if there is none).
type place struct {
	api.Node
	h api.Handle
}

func look(s *store.Store, h api.Handle) place {
	n, _ := node.Get(s, h)
	return place{n, h}
}

// side is the name that the node has at one of both sides, to be read or to be another one. It alone tells these apart: what is done to trees is written for one of them, and holds for the other.
func (p *place) side(d end) *api.Handle {
	if d == left {
		return &p.Left
	}
	return &p.Right
}

// height is the node's Mark, if that may be one: a tree is no higher than there may be records.
func (p *place) height() int {
	if p.Mark > api.MaxSlots {
		return 0
	}
	return int(p.Mark)
}

// isLevel tells whether the node's Mark is its height, and its sides' heights are apart by at most 1, if those are what their Marks tell.
func (p *place) isLevel(s *store.Store) bool {
	l, r := Height(s, p.Left), Height(s, p.Right)
	return p.Mark == uint64(1+max(l, r)) && l-r <= 1 && r-l <= 1
}

// settle puts the node down over the sides that it has now.
func (p *place) settle(s *store.Store) {
	p.Mark = uint64(1 + max(Height(s, p.Left), Height(s, p.Right)))
	p.Size = uint64(1 + walk.Size(s, p.Left) + walk.Size(s, p.Right))
	node.Put(s, p.h, p.Node)
}

func isNode(s *store.Store, h api.Handle) bool {
	_, e := node.Get(s, h)
	return e == api.OK
}

func isTree(s *store.Store, root api.Handle) bool {
	return root == 0 || isNode(s, root)
}

// made tells stores that a call made from nil and zero ones. The store itself is asked, by a handle that names nothing.
func made(s *store.Store) bool {
	_, e := s.Len(0)
	return e != api.ErrNil
}
