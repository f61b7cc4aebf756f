package heap

import (
	"loft/api"
	"loft/bits"
	"loft/class"
)

// headWords is how many words a head has.
const headWords = 2

// What the word 0 of a head is made of: one of both marks, and so many times a class, or a number of pages.
const (
	smallMark = 1
	largeMark = 2
	markUnit  = 256
)

// head is the first two words of a page, as they stand there.
type head struct {
	mark uint64
	held uint64 // the set of the slots that are taken, or how many words a large block has
}

// smallHead is that of a page of small places.
func smallHead(c int, taken uint64) head {
	return head{smallMark + markUnit*uint64(c), taken}
}

// largeHead is that of a large block.
func largeHead(words, pages int) head {
	return head{largeMark + markUnit*uint64(pages), uint64(words)}
}

// class tells the class of a page of small places, if that is what the head says. It is made anew of what was read off it, and compared whole: so no bit can be there that has no meaning.
func (d head) class() (int, bool) {
	c := int(d.mark / markUnit)
	slots, e := class.Slots(c)
	if e != api.OK || d.held == 0 {
		return 0, false
	}
	return c, d == smallHead(c, d.held&bits.Full(slots))
}

// large tells the words and the pages of a large block, if that is what the head says; it is compared whole, as in class.
func (d head) large() (words, pages int, ok bool) {
	words = int(d.held)
	_, isSmall, e := class.Of(words)
	if e != api.OK || isSmall {
		return 0, 0, false
	}
	pages, _ = class.Pages(words)
	return words, pages, d == largeHead(words, pages)
}

// kind is what a page's head says that it is.
type kind int

const (
	wrong kind = iota // as no page may be
	small             // a page of small places
	large             // the first page of a large block
)

// page is a granted one that has a head, and what that says.
type page struct {
	n     int // its number
	kind  kind
	class int    // of small places
	taken uint64 // their slots that are
	words int    // of a large block
	span  int    // how many pages from this one on are skipped with it
}

// look reads what a page's head says.
func (h *Heap) look(n int) page {
	d := h.headOf(n)
	if c, ok := d.class(); ok {
		return page{n: n, kind: small, class: c, taken: d.held, span: 1}
	}
	if words, span, ok := d.large(); ok && h.haveAll(n, span) {
		return page{n: n, kind: large, words: words, span: span}
	}
	return page{n: n, kind: wrong, span: 1}
}

// pages tells the granted pages that have heads, rising. The further pages of a large block are skipped: where a head would be they have words of its own, which may look like anything.
func (h *Heap) pages(yield func(page) bool) {
	behind := 0
	for _, n := range h.arena.Pages() {
		if n < behind {
			continue
		}
		p := h.look(n)
		behind = n + p.span
		if !yield(p) {
			return
		}
	}
}

// isOf tells whether it is a page of small places of that class.
func (p page) isOf(c int) bool {
	return p.kind == small && p.class == c
}

// slots tells how many places a page of small ones has.
func (p page) slots() int {
	n, _ := class.Slots(p.class)
	return n
}

// blocks tells those that begin on a page, rising.
func (p page) blocks(yield func(block) bool) {
	if p.kind == large {
		yield(block{page: p})
	}
	if p.kind != small {
		return
	}
	for k := range p.slots() {
		if bits.Has(p.taken, k) && !yield(block{p, k}) {
			return
		}
	}
}

// haveAll tells whether n pages from that one on are granted.
func (h *Heap) haveAll(first, n int) bool {
	for k := range n {
		if !h.arena.Is(first + k) {
			return false
		}
	}
	return true
}

// headOf reads the head of a granted page.
func (h *Heap) headOf(n int) head {
	mark, _ := h.arena.Read(n * api.PageWords)
	held, _ := h.arena.Read(n*api.PageWords + 1)
	return head{mark, held}
}

// setHead writes the head of a granted page.
func (h *Heap) setHead(n int, d head) {
	h.arena.Write(n*api.PageWords, d.mark)
	h.arena.Write(n*api.PageWords+1, d.held)
}
