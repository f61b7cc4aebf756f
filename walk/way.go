package walk

import (
	"iter"

	"loft/api"
	"loft/blob"
	"loft/node"
	"loft/store"
	"loft/text"
)

// place is a node and its name.
type place struct {
	h api.Handle
	n api.Node
}

// set is names that were met.
type set map[api.Handle]struct{}

// add tells whether a name was not met yet; from now on it was.
func (m set) add(h api.Handle) bool {
	if _, is := m[h]; is {
		return false
	}
	m[h] = struct{}{}
	return true
}

// inOrder tells the nodes of a tree by rising keys. Where it comes to what is no node, or was met, it tells ErrForm, and ends. Those nodes whose left sides are not done are kept in a row, as a tree may be as high as it has nodes.
func inOrder(s *store.Store, root api.Handle, met set) iter.Seq2[place, api.Errno] {
	return func(yield func(place, api.Errno) bool) {
		var left []place
		for h := root; h != 0 || len(left) > 0; {
			if h != 0 {
				n, e := node.Get(s, h)
				if e != api.OK || !met.add(h) {
					yield(place{}, api.ErrForm)
					return
				}
				left = append(left, place{h, n})
				h = n.Left
				continue
			}
			p := left[len(left)-1]
			left = left[:len(left)-1]
			if !yield(p, api.OK) {
				return
			}
			h = p.n.Right
		}
	}
}

// look tells the node of a name, if it is one, and may have the Size that it tells: of a right tree that is no more than there may be records, and so fits an int.
func look(s *store.Store, h api.Handle) (place, bool) {
	n, e := node.Get(s, h)
	if e != api.OK || n.Size > api.MaxSlots {
		return place{}, false
	}
	return place{h, n}, true
}

// down tells the node of a side, if it has a lesser Size than the one above it, as in every right tree. As Sizes fall, no way down comes to a node twice: it ends in any other tree, too.
func down(s *store.Store, p place, side api.Handle) (place, bool) {
	next, ok := look(s, side)
	if !ok || next.n.Size >= p.n.Size {
		return place{}, false
	}
	return next, true
}

// seek tells the node of a key (0: there is none), and how many keys are below it.
func seek(s *store.Store, root api.Handle, key string) (h api.Handle, below int) {
	for p, ok := look(s, root); ok; {
		its, e := blob.Get(s, p.n.Key)
		if e != api.OK {
			return 0, 0
		}
		switch text.Compare(key, its) {
		case -1:
			p, ok = down(s, p, p.n.Left)
		case 0:
			return p.h, below + Size(s, p.n.Left)
		default:
			below += Size(s, p.n.Left) + 1
			p, ok = down(s, p, p.n.Right)
		}
	}
	return 0, below
}

// textsOf tells the texts of a node's blobs.
func textsOf(s *store.Store, n api.Node) (api.Pair, api.Errno) {
	key, e := blob.Get(s, n.Key)
	if e != api.OK {
		return api.Pair{}, e
	}
	val, e := blob.Get(s, n.Val)
	if e != api.OK {
		return api.Pair{}, e
	}
	return api.Pair{Key: key, Val: val}, api.OK
}

// isSized tells whether a node's Size is 1 and those of its sides.
func isSized(s *store.Store, n api.Node) bool {
	return n.Size == uint64(1+Size(s, n.Left)+Size(s, n.Right))
}

// made tells stores that a call made from nil and zero ones. The store itself is asked, by a handle that names nothing.
func made(s *store.Store) bool {
	_, e := s.Len(0)
	return e != api.ErrNil
}
