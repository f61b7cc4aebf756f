// Package slab is layer 1: see shared/doc/01-slab.md.
package slab

import (
	"maps"
	"slices"

	"loft/api"
)

// endAddr is one more than the last address that there may be.
const endAddr = (api.LastPage + 1) * api.PageWords

// words are those of one granted page.
type words [api.PageWords]uint64

// Slab is an arena of words.
type Slab struct {
	quota int
	pages map[int]*words // the granted ones alone
}

// New: an arena without pages.
func New(quota int) (*Slab, api.Errno) {
	if quota < 0 || quota > api.MaxQuota {
		return nil, api.ErrArg
	}
	return &Slab{quota: quota, pages: map[int]*words{}}, api.OK
}

// Grant: pages, one behind the other.
func (s *Slab) Grant(n int) (int, api.Errno) {
	if !s.made() {
		return 0, api.ErrNil
	}
	if !isCount(n) {
		return 0, api.ErrArg
	}
	if !s.fits(n) {
		return 0, api.ErrQuota
	}
	first, found := s.gap(n)
	if !found { // pages that were claimed far apart may leave no gap that is long enough
		return 0, api.ErrQuota
	}
	for k := range n {
		s.pages[first+k] = new(words)
	}
	return first, api.OK
}

// Release: pages go.
func (s *Slab) Release(page, n int) api.Errno {
	if !s.made() {
		return api.ErrNil
	}
	if !isPage(page) || !isCount(n) || !isPage(page+n-1) {
		return api.ErrArg
	}
	if !s.haveAll(page, n) {
		return api.ErrNone
	}
	for k := range n {
		delete(s.pages, page+k)
	}
	return api.OK
}

// Claim: a page of one's own choice.
func (s *Slab) Claim(page int) api.Errno {
	if !s.made() {
		return api.ErrNil
	}
	if !isPage(page) {
		return api.ErrArg
	}
	if s.Is(page) {
		return api.ErrThere
	}
	if !s.fits(1) {
		return api.ErrQuota
	}
	s.pages[page] = new(words)
	return api.OK
}

// Read: a word.
func (s *Slab) Read(addr int) (uint64, api.Errno) {
	p, e := s.pageOf(addr)
	if e != api.OK {
		return 0, e
	}
	return p[addr%api.PageWords], api.OK
}

// Write: a word.
func (s *Slab) Write(addr int, w uint64) api.Errno {
	p, e := s.pageOf(addr)
	if e != api.OK {
		return e
	}
	p[addr%api.PageWords] = w
	return api.OK
}

// Move: words are others.
func (s *Slab) Move(to, from, n int) api.Errno {
	if !s.made() {
		return api.ErrNil
	}
	if !isSpan(to, n) || !isSpan(from, n) {
		return api.ErrArg
	}
	if !s.haveSpan(to, n) || !s.haveSpan(from, n) {
		return api.ErrNone
	}
	s.lay(to, s.taken(from, n))
	return api.OK
}

// Is: is a page granted?
func (s *Slab) Is(page int) bool {
	return s.made() && s.pages[page] != nil
}

// Pages: all that are.
func (s *Slab) Pages() []int {
	if !s.made() {
		return nil
	}
	return slices.Sorted(maps.Keys(s.pages))
}

// Quota: how many words there may be.
func (s *Slab) Quota() int {
	if !s.made() {
		return 0
	}
	return s.quota
}

// made tells arenas of New from nil and zero ones, which are to be answered alike.
func (s *Slab) made() bool {
	return s != nil && s.pages != nil
}

// fits tells whether the quota has room for n pages more.
func (s *Slab) fits(n int) bool {
	return (len(s.pages)+n)*api.PageWords <= s.quota
}

// gap tells the least page from which on n pages are not granted, if there is one.
func (s *Slab) gap(n int) (int, bool) {
	first := 0
search:
	for isPage(first + n - 1) {
		// From the end on: a run that holds the last granted page here can't be free, so all of those are passed over at once.
		for k := n - 1; k >= 0; k-- {
			if s.Is(first + k) {
				first += k + 1
				continue search
			}
		}
		return first, true
	}
	return 0, false
}

// haveAll tells whether n pages from that one on are granted.
func (s *Slab) haveAll(page, n int) bool {
	for k := range n {
		if !s.Is(page + k) {
			return false
		}
	}
	return true
}

// haveSpan tells whether the pages of n words are granted; 0 words are of no page.
func (s *Slab) haveSpan(addr, n int) bool {
	if n == 0 {
		return true
	}
	first, last := addr/api.PageWords, (addr+n-1)/api.PageWords
	return s.haveAll(first, last-first+1)
}

// pageOf tells the granted page of an address.
func (s *Slab) pageOf(addr int) (*words, api.Errno) {
	if !s.made() {
		return nil, api.ErrNil
	}
	if !isSpan(addr, 1) {
		return nil, api.ErrArg
	}
	p := s.pages[addr/api.PageWords]
	if p == nil {
		return nil, api.ErrNone
	}
	return p, api.OK
}

// rest is the words from an address to the end of its page, not copied.
func (s *Slab) rest(addr int) []uint64 {
	return s.pages[addr/api.PageWords][addr%api.PageWords:]
}

// taken is a copy of n words: what is laid over some of them must not change those that are still to be laid.
func (s *Slab) taken(from, n int) []uint64 {
	row := make([]uint64, n)
	for done := 0; done < n; {
		done += copy(row[done:], s.rest(from+done))
	}
	return row
}

// lay writes a row of words from an address on.
func (s *Slab) lay(to int, row []uint64) {
	for done := 0; done < len(row); {
		done += copy(s.rest(to+done), row[done:])
	}
}

// isCount tells whether so many pages may be asked for at once.
func isCount(n int) bool {
	return n >= 1 && n <= api.MaxPages
}

// isPage tells whether there may be such a page.
func isPage(page int) bool {
	return page >= 0 && page <= api.LastPage
}

// isSpan tells whether n words from an address on may be; of 0 words the address itself must be one.
func isSpan(addr, n int) bool {
	if addr < 0 || addr >= endAddr || n < 0 || n > api.MaxQuota {
		return false
	}
	return addr+n <= endAddr
}
