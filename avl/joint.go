package avl

import (
	"loft/api"
	"loft/store"
)

// joint is what is joined to a tree that is at least as high: a node, and the lower tree beyond it.
type joint struct {
	s   *store.Store
	d   end // the side of the higher tree where they come
	m   api.Handle
	low api.Handle
}

// under joins to a tree, or to a part of one, and tells the root. It goes down to a part that is at most one higher than the lower tree, so that the node can be over both; what is above that grows by at most one.
func (j joint) under(root api.Handle) api.Handle {
	p := look(j.s, root)
	next := look(j.s, *p.side(j.d))
	if p.height() <= Height(j.s, j.low)+1 || next.height() >= p.height() { // in an AVL tree heights fall: so the way down ends in any other one, too
		return j.over(root)
	}
	*p.side(j.d) = j.under(next.h)
	p.settle(j.s)
	return level(j.s, p, j.d)
}

// over puts the node over a part of the higher tree and all of the lower one.
func (j joint) over(part api.Handle) api.Handle {
	p := look(j.s, j.m)
	*p.side(j.d), *p.side(j.d.other()) = j.low, part
	p.settle(j.s)
	return j.m
}

// level tells the root of a tree of the same nodes whose sides are apart by at most 1. Those of the given one are apart by at most 2, and the higher one is at d.
func level(s *store.Store, p place, d end) api.Handle {
	high := look(s, *p.side(d))
	if high.height() <= Height(s, *p.side(d.other()))+1 {
		return p.h
	}
	if Height(s, *high.side(d.other())) > Height(s, *high.side(d)) { // this part would stay as low as it is, were the higher side lifted alone
		*p.side(d) = lift(s, high, d.other())
	}
	return lift(s, p, d)
}

// lift puts a node's side over it, and tells that. What is between both goes from one to the other.
func lift(s *store.Store, p place, d end) api.Handle {
	up := look(s, *p.side(d))
	*p.side(d) = *up.side(d.other())
	p.settle(s)
	*up.side(d.other()) = p.h
	up.settle(s)
	return up.h
}
