package store

import (
	"loft/api"
	"loft/class"
	"loft/handle"
	"loft/heap"
	"loft/slab"
)

// Raw: all of it.
func (s *Store) Raw() api.Raw {
	if !s.made() {
		return api.Raw{}
	}
	return api.Raw{Quota: s.arena.Quota(), Most: s.most, Last: s.last, Pages: s.pages(), Slots: s.table.Raw()}
}

// Of: the store of all of it.
func Of(r api.Raw) (*Store, api.Errno) {
	arena, e := slab.New(r.Quota)
	if e != api.OK {
		return nil, e
	}
	if _, e := handle.New(r.Most, r.Last); e != api.OK { // numbers that may not be go ahead of pages and slots
		return nil, e
	}
	if e := layAll(arena, r.Pages); e != api.OK {
		return nil, e
	}
	table, e := handle.Of(r.Most, r.Last, r.Slots)
	if e != api.OK {
		return nil, e
	}
	blocks, e := heap.New(arena)
	if e != api.OK {
		return nil, e
	}
	s := &Store{arena: arena, heap: blocks, table: table, most: r.Most, last: r.Last}
	if e := s.Audit(); e != api.OK {
		return nil, e
	}
	return s, api.OK
}

// Audit: is all as it should be?
func (s *Store) Audit() api.Errno {
	if !s.made() {
		return api.ErrNil
	}
	if e := s.heap.Audit(); e != api.OK {
		return e
	}
	live := s.heap.Live()
	if len(live) != len(s.table.Live()) { // no handle is of two blocks: if each block has one, none may be left over
		return api.ErrForm
	}
	room, page := 0, -1
	for _, addr := range live {
		if addr/api.PageWords != page { // places of one page are alike, and the heap goes through all pages for one
			room, _ = s.heap.Room(addr)
			page = addr / api.PageWords
		}
		if !s.isRecord(addr, room) {
			return api.ErrForm
		}
	}
	return api.OK
}

// isRecord tells whether a block, whose place has so many words, has the name that has its address, and a length that gets such a place.
func (s *Store) isRecord(addr, room int) bool {
	if at, e := s.table.At(s.nameAt(addr)); e != api.OK || at != addr {
		return false
	}
	n, _ := s.arena.Read(addr + 1)
	return n <= api.MaxLen && roomFor(headWords+int(n)) == room
}

// roomFor tells how many words the place of a block has.
func roomFor(words int) int {
	c, small, _ := class.Of(words)
	if !small {
		return words
	}
	size, _ := class.Size(c)
	return size
}

// pages is all granted ones, with a copy of their words.
func (s *Store) pages() []api.Page {
	var row []api.Page
	for _, n := range s.arena.Pages() {
		p := api.Page{N: n}
		for k := range p.W {
			p.W[k], _ = s.arena.Read(n*api.PageWords + k)
		}
		row = append(row, p)
	}
	return row
}

// layAll gives an arena pages. All of their numbers are looked at ahead of the quota.
func layAll(arena *slab.Slab, pages []api.Page) api.Errno {
	if !areNumbered(pages) {
		return api.ErrForm
	}
	for _, p := range pages {
		if e := arena.Claim(p.N); e != api.OK {
			return e
		}
		lay(arena, p)
	}
	return api.OK
}

// areNumbered tells whether pages rise, and there may be such ones.
func areNumbered(pages []api.Page) bool {
	before := -1
	for _, p := range pages {
		if p.N <= before || p.N > api.LastPage {
			return false
		}
		before = p.N
	}
	return true
}

// lay writes the words of a granted page.
func lay(arena *slab.Slab, p api.Page) {
	for k, w := range p.W {
		arena.Write(p.N*api.PageWords+k, w)
	}
}
