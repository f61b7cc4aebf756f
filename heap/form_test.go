package heap

import (
	"math"
	"testing"

	"loft/api"
	"loft/slab"
)

// laid is a page of an arena that is made by hand: its number, and its head.
type laid struct {
	page       int
	mark, held uint64
}

// layOut claims pages, and writes their heads; a page of the head 0, 0 is as it was granted.
func layOut(t *testing.T, s *slab.Slab, row []laid) {
	t.Helper()
	for _, l := range row {
		if e := s.Claim(l.page); e != api.OK && e != api.ErrThere {
			t.Fatalf("Claim(%d): %d", l.page, e)
		}
		s.Write(l.page*64, l.mark)
		s.Write(l.page*64+1, l.held)
	}
}

// anyHead is of pages amid a large block: these have words of its own there.
const anyHead = math.MaxUint64

var rightArenas = map[string][]laid{
	"nothing":                             nil,
	"one slot":                            {{0, 1, 1}},
	"the last slot":                       {{0, 1, 1 << 30}},
	"all slots":                           {{0, 1, 1<<31 - 1}},
	"the last class":                      {{0, 1 + 256*7, 2}},
	"all slots of the last class":         {{0, 1 + 256*7, 3}},
	"the last page":                       {{api.LastPage, 1, 1}},
	"the least large one":                 {{0, 2 + 256, 29}},
	"a page that is full":                 {{0, 2 + 256, 62}},
	"two pages":                           {{0, 2 + 512, 63}, {1, anyHead, anyHead}},
	"two pages that are full":             {{0, 2 + 512, 126}, {1, 0, 0}},
	"two pages, the second like a head":   {{0, 2 + 512, 100}, {1, 1 + 256*9, 0}},
	"large ones side by side":             {{3, 2 + 512, 100}, {4, 2 + 512, 100}, {5, 2 + 512, 100}, {6, 0, 0}},
	"pages far apart, of several kinds":   {{2, 1 + 256, 4}, {9, 2 + 256, 30}, {10, 1 + 512, 1}, {500, 1 + 256, 1<<20 - 1}},
	"a large one on the last pages":       {{api.LastPage - 1, 2 + 512, 63}, {api.LastPage, anyHead, anyHead}},
	"pages of one class, none of it full": {{0, 1, 1}, {1, 1, 1}, {2, 1, 1}},
}

var wrongArenas = map[string][]laid{
	"a page as it was granted":            {{0, 0, 0}},
	"no kind, but a set":                  {{0, 0, 1}},
	"a kind 3":                            {{0, 3, 1}},
	"a kind 255":                          {{0, 255, 30}},
	"no kind, but a class":                {{0, 256, 1}},
	"a kind 3 of one page":                {{0, 3 + 256, 30}},
	"all bits":                            {{0, math.MaxUint64, math.MaxUint64}},
	"an empty set":                        {{0, 1, 0}},
	"an empty set of the last class":      {{0, 1 + 256*7, 0}},
	"a class 8":                           {{0, 1 + 256*8, 1}},
	"a class 255":                         {{0, 1 + 256*255, 1}},
	"a class of a great number":           {{0, 1 + 1<<63, 1}},
	"a class beyond 32 bits":              {{0, 1 + 1<<40, 1}},
	"a slot too many of class 0":          {{0, 1, 1 << 31}},
	"slots too many beside right ones":    {{0, 1, 1<<32 - 1}},
	"a slot too many of class 1":          {{0, 1 + 256, 1 << 20}},
	"a slot too many of class 2":          {{0, 1 + 256*2, 1 << 15}},
	"a slot too many of class 3":          {{0, 1 + 256*3, 1 << 10}},
	"a slot too many of class 4":          {{0, 1 + 256*4, 1 << 6}},
	"a slot too many of class 5":          {{0, 1 + 256*5, 1 << 4}},
	"a slot too many of class 6":          {{0, 1 + 256*6, 1 << 3}},
	"a slot too many of class 7":          {{0, 1 + 256*7, 1 << 2}},
	"the slot 63":                         {{0, 1, 1<<63 | 1}},
	"a large one of no words":             {{0, 2 + 256, 0}},
	"a large one that is small":           {{0, 2 + 256, 28}},
	"a large one of one word":             {{0, 2 + 256, 1}},
	"no pages":                            {{0, 2, 30}},
	"no pages and no words":               {{0, 2, 0}},
	"a page too few":                      {{0, 2 + 256, 63}, {1, 1, 1}},
	"a page too many":                     {{0, 2 + 512, 62}, {1, 0, 0}},
	"two pages too many":                  {{0, 2 + 256*3, 30}, {1, 0, 0}, {2, 0, 0}},
	"the second page not granted":         {{0, 2 + 512, 63}},
	"the last page of three not granted":  {{0, 2 + 256*3, 190}, {1, 0, 0}, {3, 1, 1}},
	"a page amid not granted":             {{0, 2 + 256*3, 190}, {2, 0, 0}},
	"beyond the last page":                {{api.LastPage, 2 + 512, 63}},
	"too many words":                      {{0, 2 + 256*63, 4001}},
	"words of a great number":             {{0, 2 + 256, 1 << 63}},
	"words beyond 32 bits":                {{0, 2 + 256, 1<<32 + 30}},
	"pages of a great number":             {{0, 2 + 1<<63, 30}},
	"pages beyond 32 bits":                {{0, 2 + 256 + 1<<40, 30}},
	"a wrong one behind right ones":       {{0, 1, 1}, {1, 2 + 512, 63}, {2, 0, 0}, {3, 0, 0}},
	"a wrong one ahead of right ones":     {{0, 0, 0}, {1, 1, 1}},
	"a wrong one on the last page":        {{0, 1, 1}, {api.LastPage, 1, 0}},
	"a page behind a large one's is none": {{0, 2 + 256, 62}, {1, 62, 2 + 256}},
}

func TestNewTakesRightArenas(t *testing.T) {
	for name, row := range rightArenas {
		s := arena(t, 64*64)
		layOut(t, s, row)
		was := wordsIn(t, s)
		h, e := New(s)
		if h == nil || e != api.OK {
			t.Errorf("%s: %v, %d", name, h, e)
			continue
		}
		expectAudit(t, h, api.OK)
		expectSame(t, s, was)
	}
}

func TestNewRefusesWrongArenas(t *testing.T) {
	for name, row := range wrongArenas {
		s := arena(t, 64*64)
		layOut(t, s, row)
		was := wordsIn(t, s)
		if h, e := New(s); h != nil || e != api.ErrForm {
			t.Errorf("%s: %v, %d", name, h, e)
		}
		expectSame(t, s, was)
	}
}

// The same block whole: 63 pages, and one of them not granted.
func TestGreatestLargeBlockByHand(t *testing.T) {
	for _, missing := range []int{-1, 1, 31, 62} {
		s := arena(t, 64*64)
		layOut(t, s, []laid{{0, 2 + 256*63, 4000}})
		for p := 1; p < 63; p++ {
			if p != missing {
				layOut(t, s, []laid{{p, anyHead, 0}})
			}
		}
		_, e := New(s)
		if want := missing > 0; (e == api.ErrForm) != want || (e == api.OK) == want {
			t.Errorf("page %d missing: %d", missing, e)
		}
	}
}

func TestAuditOfRightAndWrongArenas(t *testing.T) {
	for name, row := range rightArenas {
		h, s := empty(t, 64*64)
		layOut(t, s, row)
		if e := h.Audit(); e != api.OK {
			t.Errorf("%s: %d", name, e)
		}
	}
	for name, row := range wrongArenas {
		h, s := empty(t, 64*64)
		layOut(t, s, row)
		was := wordsIn(t, s)
		if e := h.Audit(); e != api.ErrForm {
			t.Errorf("%s: %d", name, e)
		}
		expectSame(t, s, was)
	}
}

func TestAuditTellsWhatOthersDid(t *testing.T) {
	h, s := empty(t, 6400)
	expectAlloc(t, h, 2, 2)
	expectAlloc(t, h, 190, 66)
	s.Write(130, 9) // a word of the block, not of a head
	expectAudit(t, h, api.OK)
	s.Write(65, 191)
	expectAudit(t, h, api.ErrForm)
	s.Write(65, 190)
	expectAudit(t, h, api.OK)
	s.Release(3, 1)
	expectAudit(t, h, api.ErrForm)
	s.Claim(3)
	s.Claim(9)
	expectAudit(t, h, api.ErrForm)
	s.Release(9, 1)
	expectAudit(t, h, api.OK)
}

// What arenas that are not as the words say are answered is not said, but that every call ends.
func TestCallsEndOnWrongArenas(t *testing.T) {
	for _, row := range wrongArenas {
		h, s := empty(t, 64*64)
		layOut(t, s, row)
		for a := -2; a < 4*64; a++ {
			h.Room(a)
			h.Slide(a)
			h.Free(a)
		}
		for c := -1; c < 9; c++ {
			h.Spare(c)
		}
		for _, words := range []int{1, 2, 28, 29, 63, 200} {
			h.Alloc(words)
		}
		for _, a := range h.Live() {
			h.Slide(a)
			h.Free(a)
		}
		h.Audit()
	}
}

func TestBlocksOfArenaByHand(t *testing.T) {
	s := arena(t, 6400)
	layOut(t, s, []laid{{1, 1 + 256*7, 2}, {3, 2 + 512, 100}, {4, 1, 7}, {6, 1 + 256*6, 5}, {api.LastPage, 1, 1 << 30}})
	h, e := New(s)
	if e != api.OK {
		t.Fatal(e)
	}
	last := api.LastPage*64 + 62
	expectLive(t, h, 64+30, 3*64+2, 6*64+2, 6*64+40, last)
	expectRoom(t, h, 64+30, 28)
	expectRoom(t, h, 3*64+2, 100)
	expectRoom(t, h, 6*64+40, 19)
	expectRoom(t, h, last, 2)
	expectNoBlock(t, h, 4*64+2, api.ErrNone)
	expectSpare(t, h, 7, 1)
	expectSpare(t, h, 6, 1)
	expectSpare(t, h, 0, 30)
	expectSlide(t, h, 3*64+2, 2*64+2) // page 1 is taken, page 2 free, page 3 its own
	fill(t, s, last, 2, 1<<40)
	expectSlide(t, h, last, api.LastPage*64+2)
	expectFilled(t, s, api.LastPage*64+2, 2, 1<<40)
	expectAlloc(t, h, 2, api.LastPage*64+4)
	expectAlloc(t, h, 3, 2)
	expectAudit(t, h, api.OK)
}
