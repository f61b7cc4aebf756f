package heap

import (
	"loft/api"
	"loft/bits"
	"loft/class"
)

// block is one, or a place for one: a slot of a page of small places, or the pages of a large one.
type block struct {
	page page
	slot int // of a small one
}

// at tells at which of its page's words a block begins.
func (b block) at() int {
	if b.page.kind == large {
		return headWords
	}
	at, _ := class.Place(b.page.class, b.slot)
	return at
}

func (b block) addr() int {
	return b.page.n*api.PageWords + b.at()
}

func (b block) room() int {
	if b.page.kind == large {
		return b.page.words
	}
	size, _ := class.Size(b.page.class)
	return size
}

// find tells the block of an address. All pages ahead of its own are gone through: whether a page has a head, or is amid a large block, is not to be seen on itself.
func (h *Heap) find(addr int) (block, api.Errno) {
	if !h.made() {
		return block{}, api.ErrNil
	}
	for p := range h.pages {
		if p.n != addr/api.PageWords {
			continue
		}
		for b := range p.blocks {
			if b.addr() == addr {
				return b, api.OK
			}
		}
		break
	}
	return block{}, api.ErrNone
}

// leastFree tells the least free slot of a class, if its pages have one.
func (h *Heap) leastFree(c int) (block, bool) {
	for p := range h.pages {
		if !p.isOf(c) {
			continue
		}
		if k := bits.Free(p.taken, p.slots()); k >= 0 {
			return block{p, k}, true
		}
	}
	return block{}, false
}

func (h *Heap) allocSmall(c int) (int, api.Errno) {
	b, found := h.leastFree(c)
	if !found {
		n, e := h.arena.Grant(1)
		if e != api.OK {
			return 0, e
		}
		b = block{page: page{n: n, kind: small, class: c, span: 1}}
	}
	h.take(b)
	h.wipe(b) // an arena that came with pages may have anything in its free slots
	return b.addr(), api.OK
}

func (h *Heap) allocLarge(words int) (int, api.Errno) {
	span, _ := class.Pages(words)
	n, e := h.arena.Grant(span)
	if e != api.OK {
		return 0, e
	}
	h.setHead(n, largeHead(words, span))
	return block{page: page{n: n, kind: large, words: words, span: span}}.addr(), api.OK
}

func (h *Heap) slideSmall(b block) int {
	to, found := h.leastFree(b.page.class)
	if !found || to.addr() > b.addr() {
		return b.addr()
	}
	h.take(to)
	h.arena.Move(to.addr(), b.addr(), b.room())
	h.leave(b)
	return to.addr()
}

// slideLarge lets go of a block's pages ahead of taking others: the quota may have no room for both, and as its own ones count as free, those that are granted then are the least that it may have; at worst they are the same.
func (h *Heap) slideLarge(b block) int {
	words := h.wordsOf(b.page)
	h.arena.Release(b.page.n, b.page.span)
	b.page.n, _ = h.arena.Grant(b.page.span)
	for k, w := range words {
		h.arena.Write(b.page.n*api.PageWords+k, w)
	}
	return b.addr()
}

// wordsOf is a copy of all words of a large block's pages, the head and what is left behind the block too.
func (h *Heap) wordsOf(p page) []uint64 {
	row := make([]uint64, p.span*api.PageWords)
	for k := range row {
		row[k], _ = h.arena.Read(p.n*api.PageWords + k)
	}
	return row
}

// take makes a block of a slot.
func (h *Heap) take(b block) {
	taken, _ := bits.Set(b.page.taken, b.slot)
	h.setHead(b.page.n, smallHead(b.page.class, taken))
}

// leave makes a slot free, and releases its page, if that has no block any more. The set is read anew: a block that slides may have taken another slot of the same page just now.
func (h *Heap) leave(b block) {
	taken, _ := bits.Clear(h.headOf(b.page.n).held, b.slot)
	if taken == 0 {
		h.arena.Release(b.page.n, 1)
		return
	}
	h.setHead(b.page.n, smallHead(b.page.class, taken))
	h.wipe(b) // so a block that is made and freed again leaves no trace in the arena
}

// wipe makes all words of a place 0.
func (h *Heap) wipe(b block) {
	first := b.addr()
	for k := range b.room() {
		h.arena.Write(first+k, 0)
	}
}
