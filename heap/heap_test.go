package heap

import (
	"maps"
	"math"
	"slices"
	"testing"

	"loft/api"
	"loft/slab"
)

// wantSizes and wantSlots are the document's, written out.
var (
	wantSizes = []int{2, 3, 4, 6, 9, 13, 19, 28}
	wantSlots = []int{31, 20, 15, 10, 6, 4, 3, 2}
)

// farAddrs are addresses of no arena here, and ones that none may have.
var farAddrs = []int{-1, -2, -62, -64, -66, 1 << 20, api.MaxQuota, 64<<20 - 62, 64<<20 - 1, 64 << 20, 64<<20 + 2, 1<<32 + 2, math.MaxInt, math.MaxInt - 61, math.MinInt, math.MinInt + 2}

// noWords are numbers of words that no block may have.
var noWords = []int{0, 4001, -1, -28, 4002, 1 << 18, 1<<32 + 2, -1 << 32, math.MaxInt, math.MinInt}

func arena(t *testing.T, quota int) *slab.Slab {
	t.Helper()
	s, e := slab.New(quota)
	if e != api.OK {
		t.Fatalf("an arena of %d words: %d", quota, e)
	}
	return s
}

// empty makes a heap without blocks.
func empty(t *testing.T, quota int) (*Heap, *slab.Slab) {
	t.Helper()
	s := arena(t, quota)
	h, e := New(s)
	if h == nil || e != api.OK {
		t.Fatalf("New: %v, %d", h, e)
	}
	return h, s
}

// wordsIn is all words of an arena by their addresses: all that a later call could tell of it.
func wordsIn(t *testing.T, s *slab.Slab) map[int]uint64 {
	t.Helper()
	out := map[int]uint64{}
	for _, p := range s.Pages() {
		for a := p * 64; a < p*64+64; a++ {
			w, e := s.Read(a)
			if e != api.OK {
				t.Fatalf("Read(%d): %d", a, e)
			}
			out[a] = w
		}
	}
	return out
}

// expectSame holds an arena against what it was.
func expectSame(t *testing.T, s *slab.Slab, was map[int]uint64) {
	t.Helper()
	if !maps.Equal(wordsIn(t, s), was) {
		t.Error("the arena is another one")
	}
}

func expectWord(t *testing.T, s *slab.Slab, addr int, want uint64) {
	t.Helper()
	if w, e := s.Read(addr); w != want || e != api.OK {
		t.Errorf("word %d: %d, %d; want %d", addr, w, e, want)
	}
}

// expectHead holds a page's head against the two words that it must be.
func expectHead(t *testing.T, s *slab.Slab, page int, mark, held uint64) {
	t.Helper()
	expectWord(t, s, page*64, mark)
	expectWord(t, s, page*64+1, held)
}

// fill writes words that differ from 0, and from each other, from an address on.
func fill(t *testing.T, s *slab.Slab, addr, n int, seed uint64) {
	t.Helper()
	for k := range n {
		if e := s.Write(addr+k, seed+uint64(k)); e != api.OK {
			t.Fatalf("Write(%d): %d", addr+k, e)
		}
	}
}

func expectFilled(t *testing.T, s *slab.Slab, addr, n int, seed uint64) {
	t.Helper()
	for k := range n {
		expectWord(t, s, addr+k, seed+uint64(k))
	}
}

func expectZero(t *testing.T, s *slab.Slab, addr, n int) {
	t.Helper()
	for k := range n {
		expectWord(t, s, addr+k, 0)
	}
}

func expectAlloc(t *testing.T, h *Heap, words, addr int) {
	t.Helper()
	if a, e := h.Alloc(words); a != addr || e != api.OK {
		t.Errorf("Alloc(%d): %d, %d; want %d", words, a, e, addr)
	}
}

func expectRefused(t *testing.T, h *Heap, words int, want api.Errno) {
	t.Helper()
	if a, e := h.Alloc(words); a != 0 || e != want {
		t.Errorf("Alloc(%d): %d, %d; want the error %d", words, a, e, want)
	}
}

func expectFree(t *testing.T, h *Heap, addrs ...int) {
	t.Helper()
	for _, a := range addrs {
		if e := h.Free(a); e != api.OK {
			t.Errorf("Free(%d): %d", a, e)
		}
	}
}

func expectRoom(t *testing.T, h *Heap, addr, want int) {
	t.Helper()
	if n, e := h.Room(addr); n != want || e != api.OK {
		t.Errorf("Room(%d): %d, %d; want %d", addr, n, e, want)
	}
}

func expectSlide(t *testing.T, h *Heap, addr, to int) {
	t.Helper()
	if a, e := h.Slide(addr); a != to || e != api.OK {
		t.Errorf("Slide(%d): %d, %d; want %d", addr, a, e, to)
	}
}

func expectLive(t *testing.T, h *Heap, want ...int) {
	t.Helper()
	if got := h.Live(); !slices.Equal(got, want) {
		t.Errorf("Live: %v, want %v", got, want)
	}
}

func expectPages(t *testing.T, s *slab.Slab, want ...int) {
	t.Helper()
	if got := s.Pages(); !slices.Equal(got, want) {
		t.Errorf("pages: %v, want %v", got, want)
	}
}

func expectSpare(t *testing.T, h *Heap, c, want int) {
	t.Helper()
	if got := h.Spare(c); got != want {
		t.Errorf("Spare(%d): %d, want %d", c, got, want)
	}
}

func expectAudit(t *testing.T, h *Heap, want api.Errno) {
	t.Helper()
	if e := h.Audit(); e != want {
		t.Errorf("Audit: %d, want %d", e, want)
	}
}

// expectNoBlock asks all that is asked of an address that no block has.
func expectNoBlock(t *testing.T, h *Heap, addr int, want api.Errno) {
	t.Helper()
	if n, e := h.Room(addr); n != 0 || e != want {
		t.Errorf("Room(%d): %d, %d; want the error %d", addr, n, e, want)
	}
	if a, e := h.Slide(addr); a != 0 || e != want {
		t.Errorf("Slide(%d): %d, %d; want the error %d", addr, a, e, want)
	}
	if e := h.Free(addr); e != want {
		t.Errorf("Free(%d): %d, want %d", addr, e, want)
	}
}

func TestExamples(t *testing.T) {
	h, s := empty(t, 640)
	expectAlloc(t, h, 2, 2)
	expectAlloc(t, h, 2, 4)
	expectAlloc(t, h, 28, 66)
	expectAlloc(t, h, 100, 130)
	expectFree(t, h, 2)
	expectAlloc(t, h, 1, 2)
	expectFree(t, h, 4, 66)
	expectPages(t, s, 0, 2, 3)
	fill(t, s, 130, 100, 1000)
	expectSlide(t, h, 130, 66)
	expectFilled(t, s, 66, 100, 1000)
	expectPages(t, s, 0, 1, 2)
	expectLive(t, h, 2, 66)
	expectAudit(t, h, api.OK)
}

// P4.1

func TestHeapWithoutPages(t *testing.T) {
	for _, quota := range []int{0, 63, 64, api.MaxQuota} {
		h, s := empty(t, quota)
		expectLive(t, h)
		expectPages(t, s)
		expectAudit(t, h, api.OK)
		for c := range 8 {
			expectSpare(t, h, c, 0)
		}
		for _, a := range append([]int{0, 1, 2, 63, 64, 66}, farAddrs...) {
			expectNoBlock(t, h, a, api.ErrNone)
		}
		expectPages(t, s)
	}
}

func TestNoArena(t *testing.T) {
	for _, s := range []*slab.Slab{nil, {}} {
		if h, e := New(s); h != nil || e != api.ErrNil {
			t.Errorf("New of no arena: %v, %d", h, e)
		}
	}
}

func TestNoHeap(t *testing.T) {
	refused, _ := New(nil)
	for _, h := range []*Heap{nil, {}, refused} {
		for _, n := range []int{-1, 0, 1, 2, 28, 29, 4000, 4001, math.MaxInt, math.MinInt} {
			expectRefused(t, h, n, api.ErrNil)
			expectNoBlock(t, h, n, api.ErrNil)
			expectSpare(t, h, n, 0)
		}
		if h.Live() != nil {
			t.Error("no heap has blocks")
		}
		expectAudit(t, h, api.ErrNil)
	}
}

func TestLiveRises(t *testing.T) {
	h, _ := empty(t, 6400)
	for _, words := range []int{63, 2, 28, 2, 29, 4, 28, 28, 2} {
		if _, e := h.Alloc(words); e != api.OK {
			t.Fatal(e)
		}
	}
	expectLive(t, h, 2, 130, 132, 134, 194, 222, 258, 322, 386)
	expectFree(t, h, 2)
	expectAlloc(t, h, 62, 2)
	expectLive(t, h, 2, 130, 132, 134, 194, 222, 258, 322, 386)
}

func TestLiveIsNewMemory(t *testing.T) {
	h, _ := empty(t, 640)
	expectAlloc(t, h, 2, 2)
	expectAlloc(t, h, 2, 4)
	row := h.Live()
	row[0] = 99
	expectLive(t, h, 2, 4)
}

func TestRoomOfEachBlock(t *testing.T) {
	least := 1
	for _, size := range wantSizes {
		for words := least; words <= size; words++ {
			h, _ := empty(t, 64)
			expectAlloc(t, h, words, 2)
			expectRoom(t, h, 2, size)
		}
		least = size + 1
	}
	for _, words := range []int{29, 30, 31, 61, 62, 63, 64, 126, 127, 3966, 3967, 3999, 4000} {
		h, _ := empty(t, 4032)
		expectAlloc(t, h, words, 2)
		expectRoom(t, h, 2, words)
	}
}

func TestSpareCountsItsClassAlone(t *testing.T) {
	h, _ := empty(t, 6400)
	for c, size := range wantSizes {
		if _, e := h.Alloc(size); e != api.OK {
			t.Fatal(e)
		}
		for d := range wantSizes {
			want := 0
			if d <= c {
				want = wantSlots[d] - 1
			}
			expectSpare(t, h, d, want)
		}
	}
	expectAlloc(t, h, 29, 8*64+2)
	expectSpare(t, h, 0, 30)
	for _, c := range []int{-1, 8, 9, -8, 255, 256, 1 << 32, 1 << 56, math.MaxInt, math.MinInt} {
		expectSpare(t, h, c, 0)
	}
}

func TestSpareCountsAllPages(t *testing.T) {
	h, _ := empty(t, 6400)
	for range 7 {
		h.Alloc(19)
	}
	expectSpare(t, h, 6, 2)
	expectFree(t, h, 2, 66)
	expectSpare(t, h, 6, 4)
	expectFree(t, h, 130) // the last one of its page
	expectSpare(t, h, 6, 2)
}

func TestHeapOfPagesGoesOn(t *testing.T) {
	h, s := empty(t, 6400)
	for _, words := range []int{2, 100, 28, 5, 2, 4000, 9} {
		h.Alloc(words)
	}
	expectFree(t, h, 2)
	was, live := wordsIn(t, s), h.Live()
	other, e := New(s)
	if e != api.OK {
		t.Fatal(e)
	}
	expectSame(t, s, was)
	expectLive(t, other, live...)
	expectAlloc(t, other, 1, 2)
	expectFree(t, other, live...)
	expectFree(t, other, 2)
	expectPages(t, s)
}

// P4.2

func TestSmallBlocksFillPages(t *testing.T) {
	for c, size := range wantSizes {
		h, s := empty(t, 6400)
		for page := range 3 {
			for slot := range wantSlots[c] {
				expectSpare(t, h, c, (wantSlots[c]-slot)%wantSlots[c])
				expectAlloc(t, h, size, page*64+2+slot*size)
				expectHead(t, s, page, 1+256*uint64(c), 1<<(slot+1)-1)
			}
			if len(s.Pages()) != page+1 {
				t.Errorf("class %d: %d pages, want %d", c, len(s.Pages()), page+1)
			}
		}
		expectAudit(t, h, api.OK)
	}
}

func TestLeastFreeSlotOfLeastPage(t *testing.T) {
	h, _ := empty(t, 6400)
	for range 9 {
		h.Alloc(19)
	}
	expectFree(t, h, 2+19+64, 2+38, 2+38+128)
	expectAlloc(t, h, 14, 2+38) // the last slot of a page ahead of lesser slots of others
	expectAlloc(t, h, 19, 2+19+64)
	expectAlloc(t, h, 15, 2+38+128)
	expectAlloc(t, h, 19, 2+192)
}

func TestPagesOfOtherClassesAreLeft(t *testing.T) {
	h, s := empty(t, 6400)
	expectAlloc(t, h, 3, 2)
	expectAlloc(t, h, 2, 66)
	expectAlloc(t, h, 3, 5)
	expectAlloc(t, h, 29, 130)
	expectAlloc(t, h, 1, 68)
	expectHead(t, s, 0, 257, 3)
	expectHead(t, s, 1, 1, 3)
	expectHead(t, s, 2, 258, 29)
}

func TestLargeBlocks(t *testing.T) {
	for _, x := range []struct {
		words int
		pages uint64
	}{{29, 1}, {62, 1}, {63, 2}, {126, 2}, {127, 3}, {3999, 63}, {4000, 63}} {
		h, s := empty(t, 63*64)
		expectAlloc(t, h, x.words, 2)
		expectHead(t, s, 0, 2+256*x.pages, uint64(x.words))
		if n := len(s.Pages()); n != int(x.pages) {
			t.Errorf("%d words: %d pages", x.words, n)
		}
		expectZero(t, s, 2, int(x.pages)*64-2)
		expectLive(t, h, 2)
		expectAudit(t, h, api.OK)
		expectFree(t, h, 2)
		expectPages(t, s)
	}
}

func TestLargeBlockTakesLeastRun(t *testing.T) {
	h, s := empty(t, 6400)
	for range 5 {
		h.Alloc(62)
	}
	expectFree(t, h, 2, 2*64+2, 3*64+2)
	expectAlloc(t, h, 63, 2*64+2)
	expectAlloc(t, h, 63, 5*64+2)
	expectAlloc(t, h, 62, 2)
	expectPages(t, s, 0, 1, 2, 3, 4, 5, 6)
}

func TestAllocRefusesWords(t *testing.T) {
	h, s := empty(t, 6400)
	expectAlloc(t, h, 2, 2)
	full, none := wordsIn(t, s), arena(t, 0)
	bare, _ := New(none)
	for _, words := range noWords {
		expectRefused(t, h, words, api.ErrArg)
		expectRefused(t, bare, words, api.ErrArg) // ahead of ErrQuota
	}
	expectSame(t, s, full)
	expectPages(t, none)
}

func TestQuotaOfSmallBlocks(t *testing.T) {
	for _, words := range []int{1, 2, 28} {
		h, s := empty(t, 63)
		expectRefused(t, h, words, api.ErrQuota)
		expectPages(t, s)
		h, s = empty(t, 64)
		expectAlloc(t, h, words, 2)
		expectPages(t, s, 0)
	}
	h, s := empty(t, 127)
	expectAlloc(t, h, 28, 2)
	expectAlloc(t, h, 28, 30)
	was := wordsIn(t, s)
	expectRefused(t, h, 28, api.ErrQuota) // its page is full
	expectRefused(t, h, 19, api.ErrQuota) // no page of its class
	expectSame(t, s, was)
	expectFree(t, h, 2)
	expectAlloc(t, h, 20, 2) // a free slot asks for no page
}

func TestQuotaOfLargeBlocks(t *testing.T) {
	for words, pages := range map[int]int{29: 1, 62: 1, 63: 2, 4000: 63} {
		h, s := empty(t, pages*64-1)
		expectRefused(t, h, words, api.ErrQuota)
		expectPages(t, s)
		h, _ = empty(t, pages*64)
		expectAlloc(t, h, words, 2)
		expectRefused(t, h, 29, api.ErrQuota)
		expectRefused(t, h, 1, api.ErrQuota)
		expectRoom(t, h, 2, words)
	}
}

func TestWholeQuota(t *testing.T) {
	h, s := empty(t, api.MaxQuota)
	for k := range 65 {
		expectAlloc(t, h, 4000, k*63*64+2)
	}
	expectAlloc(t, h, 62, 4095*64+2)
	expectRefused(t, h, 1, api.ErrQuota)
	expectRefused(t, h, 29, api.ErrQuota)
	if n := len(h.Live()); n != 66 || len(s.Pages()) != api.MaxPages {
		t.Errorf("%d blocks on %d pages", n, len(s.Pages()))
	}
	expectAudit(t, h, api.OK)
}

func TestPlacesComeEmpty(t *testing.T) {
	h, s := empty(t, 6400)
	for _, size := range wantSizes {
		first, _ := h.Alloc(size)
		second, _ := h.Alloc(size)
		fill(t, s, first, size, 1<<40)
		fill(t, s, second, size, 1<<41)
		expectFree(t, h, first)
		expectAlloc(t, h, size, first)
		expectZero(t, s, first, size)
		expectFilled(t, s, second, size, 1<<41)
	}
}

// The free slots of pages that come with an arena may have anything in them.
func TestPlacesComeEmptyOnGivenPages(t *testing.T) {
	s := arena(t, 640)
	s.Grant(1)
	fill(t, s, 0, 64, 1<<40)
	s.Write(0, 1+256*3)
	s.Write(1, 1<<9|1<<0)
	h, e := New(s)
	if e != api.OK {
		t.Fatal(e)
	}
	expectFilled(t, s, 8, 56, 1<<40+8)
	for slot := 1; slot < 9; slot++ {
		expectAlloc(t, h, 5, 2+6*slot)
		expectZero(t, s, 2+6*slot, 6)
		expectFilled(t, s, 8+6*slot, 56-6*slot, 1<<40+8+6*uint64(slot))
	}
	expectFilled(t, s, 2, 6, 1<<40+2)
}

// A call of an upper layer that is refused makes blocks and frees them: nothing must tell of them.
func TestMadeAndFreedLeavesNoTrace(t *testing.T) {
	h, s := empty(t, 6400)
	for _, words := range []int{2, 2, 28, 100, 9} {
		h.Alloc(words)
	}
	expectFree(t, h, 2)
	was := wordsIn(t, s)
	for _, words := range []int{1, 2, 3, 9, 28, 29, 63, 4000} {
		a, e := h.Alloc(words)
		if e != api.OK {
			t.Fatal(e)
		}
		room, _ := h.Room(a)
		fill(t, s, a, room, 1<<50)
		expectFree(t, h, a)
		expectSame(t, s, was)
	}
}

// P4.3

func TestFreeReleasesEmptyPages(t *testing.T) {
	for c, size := range wantSizes {
		h, s := empty(t, 6400)
		for range 2 * wantSlots[c] {
			h.Alloc(size)
		}
		last := wantSlots[c] - 1
		for slot := range last {
			expectFree(t, h, 2+slot*size)
			expectPages(t, s, 0, 1)
			expectHead(t, s, 0, 1+256*uint64(c), (1<<(last-slot)-1)<<(slot+1))
			expectSpare(t, h, c, slot+1)
		}
		expectFree(t, h, 2+last*size)
		expectPages(t, s, 1)
		expectSpare(t, h, c, 0)
		expectAudit(t, h, api.OK)
		expectAlloc(t, h, size, 2)
	}
}

func TestFreeReleasesPagesOfLarge(t *testing.T) {
	h, s := empty(t, 64*70)
	expectAlloc(t, h, 62, 2)
	expectAlloc(t, h, 4000, 66)
	expectAlloc(t, h, 127, 64*64+2)
	expectFree(t, h, 66)
	expectPages(t, s, 0, 64, 65, 66)
	expectLive(t, h, 2, 64*64+2)
	expectFree(t, h, 2, 64*64+2)
	expectPages(t, s)
}

func TestFreeLeavesOthers(t *testing.T) {
	h, s := empty(t, 6400)
	var live []int
	for k := range 40 {
		a, _ := h.Alloc(wantSizes[k%8])
		fill(t, s, a, wantSizes[k%8], uint64(k+1)<<32)
		live = append(live, a)
	}
	for k := 0; k < 40; k += 3 {
		expectFree(t, h, live[k])
		for j, a := range live {
			if j > k || j%3 != 0 {
				expectFilled(t, s, a, wantSizes[j%8], uint64(j+1)<<32)
			}
		}
	}
}

func TestNoBlockHasThatAddress(t *testing.T) {
	h, s := empty(t, 6400)
	for _, words := range []int{3, 3, 28, 100, 62} {
		h.Alloc(words)
	}
	// Behind the head of the large block's first page: a second page that looks like one of small places.
	s.Write(3*64, 1)
	s.Write(3*64+1, 1)
	expectFree(t, h, 2)
	live := []int{5, 66, 130, 4*64 + 2}
	expectLive(t, h, live...)
	was := wordsIn(t, s)
	for a := -70; a < 6*64; a++ {
		if !slices.Contains(live, a) {
			expectNoBlock(t, h, a, api.ErrNone)
		}
	}
	for _, a := range farAddrs {
		expectNoBlock(t, h, a, api.ErrNone)
	}
	expectSame(t, s, was)
	expectLive(t, h, live...)
	expectFree(t, h, live...)
	for _, a := range live {
		expectNoBlock(t, h, a, api.ErrNone)
	}
	expectPages(t, s)
}

// P4.4

func TestSlideToLeastSlotOfOwnPage(t *testing.T) {
	for c, size := range wantSizes {
		h, s := empty(t, 640)
		last := 2 + (wantSlots[c]-1)*size
		for range wantSlots[c] {
			h.Alloc(size)
		}
		fill(t, s, last, size, 1<<40)
		expectSlide(t, h, last, last) // none is free
		expectFree(t, h, 2)
		expectSlide(t, h, last, 2)
		expectFilled(t, s, 2, size, 1<<40)
		expectNoBlock(t, h, last, api.ErrNone)
		expectHead(t, s, 0, 1+256*uint64(c), 1<<(wantSlots[c]-1)-1)
		expectSlide(t, h, 2, 2)
		expectAudit(t, h, api.OK)
		expectAlloc(t, h, size, last)
		expectZero(t, s, last, size)
	}
}

func TestSlideToLesserPage(t *testing.T) {
	for c, size := range wantSizes {
		h, s := empty(t, 640)
		last := 2 + (wantSlots[c]-1)*size
		for range 2*wantSlots[c] + 1 {
			h.Alloc(size)
		}
		fill(t, s, 130, size, 1<<40)
		expectFree(t, h, last, 66)
		expectSlide(t, h, 130, last) // a lesser page's last slot ahead of another one's first
		expectPages(t, s, 0, 1)
		expectFilled(t, s, last, size, 1<<40)
		expectSlide(t, h, 66+size, 66)
		expectAudit(t, h, api.OK)
	}
}

func TestSlideToNoGreaterSlot(t *testing.T) {
	h, s := empty(t, 640)
	for range 3 {
		h.Alloc(19)
	}
	for range 3 {
		h.Alloc(19)
	}
	expectFree(t, h, 66+19)
	was := wordsIn(t, s)
	expectSlide(t, h, 2, 2)
	expectSlide(t, h, 2+19, 2+19)
	expectSlide(t, h, 66, 66)
	expectSame(t, s, was)
	expectSlide(t, h, 66+38, 66+19)
}

// A lesser page that is not granted is no place for a small block, nor is a slot of another class.
func TestSmallBlocksSlideToNoNewPage(t *testing.T) {
	h, s := empty(t, 640)
	expectAlloc(t, h, 29, 2)
	expectAlloc(t, h, 3, 66)
	expectAlloc(t, h, 2, 130)
	expectFree(t, h, 2)
	was := wordsIn(t, s)
	expectSlide(t, h, 130, 130)
	expectSlide(t, h, 66, 66)
	expectSame(t, s, was)
}

func TestSlideOfLarge(t *testing.T) {
	for _, words := range []int{29, 62, 63, 126, 127, 4000} {
		span := (words + 2 + 63) / 64
		h, s := empty(t, 64*(2*span+3))
		expectAlloc(t, h, 2, 2)
		expectAlloc(t, h, words, 66)
		expectAlloc(t, h, 62, (1+span)*64+2)
		expectAlloc(t, h, words, (2+span)*64+2)
		fill(t, s, (2+span)*64+2, words, 1<<40)
		expectSlide(t, h, (2+span)*64+2, (2+span)*64+2) // one page is free, but a greater one
		expectFree(t, h, 66)
		expectSlide(t, h, (2+span)*64+2, 66)
		expectFilled(t, s, 66, words, 1<<40)
		expectZero(t, s, 66+words, span*64-2-words)
		expectHead(t, s, 1, 2+256*uint64(span), uint64(words))
		expectLive(t, h, 2, 66, (1+span)*64+2)
		if n := len(s.Pages()); n != span+2 {
			t.Errorf("%d words: %d pages", words, n)
		}
		expectAudit(t, h, api.OK)
	}
}

// Its own pages count as free, at a quota that has no room for any beside them too.
func TestSlideOfLargeOntoOwnPages(t *testing.T) {
	for free := 1; free <= 5; free++ {
		h, s := empty(t, 64*(free+4))
		for range free {
			h.Alloc(62)
		}
		expectAlloc(t, h, 250, free*64+2)
		expectRefused(t, h, 62, api.ErrQuota)
		fill(t, s, free*64+2, 250, 1<<40)
		for k := range free {
			expectFree(t, h, k*64+2)
		}
		expectSlide(t, h, free*64+2, 2)
		expectFilled(t, s, 2, 250, 1<<40)
		expectZero(t, s, 252, 4)
		expectPages(t, s, 0, 1, 2, 3)
		expectHead(t, s, 0, 2+256*4, 250)
		expectLive(t, h, 2)
		expectAudit(t, h, api.OK)
	}
}

func TestSlideOfLargeAtFullQuota(t *testing.T) {
	h, s := empty(t, 64*6)
	expectAlloc(t, h, 62, 2)
	expectAlloc(t, h, 62, 66)
	expectAlloc(t, h, 190, 130) // pages 2, 3 and 4
	expectAlloc(t, h, 2, 5*64+2)
	fill(t, s, 130, 190, 1<<40)
	expectFree(t, h, 66)
	expectAlloc(t, h, 4, 66)
	expectSlide(t, h, 130, 130)
	expectFree(t, h, 66)
	expectAlloc(t, h, 28, 66)
	expectFree(t, h, 2)
	expectAlloc(t, h, 3, 2)
	expectRefused(t, h, 29, api.ErrQuota)
	expectSlide(t, h, 130, 130)
	expectFree(t, h, 66)
	expectSlide(t, h, 130, 66)
	expectFilled(t, s, 66, 190, 1<<40)
	expectPages(t, s, 0, 1, 2, 3, 5)
}

// A gap that is too short is passed over, the least one that is long enough is taken.
func TestSlideOfLargeTakesLeastGap(t *testing.T) {
	h, s := empty(t, 64*20)
	for range 12 {
		h.Alloc(62)
	}
	expectAlloc(t, h, 126, 12*64+2)
	expectFree(t, h, 1*64+2, 3*64+2, 6*64+2, 7*64+2, 9*64+2, 10*64+2, 11*64+2)
	fill(t, s, 12*64+2, 126, 1<<40)
	expectSlide(t, h, 12*64+2, 6*64+2)
	expectFilled(t, s, 6*64+2, 126, 1<<40)
	expectPages(t, s, 0, 2, 4, 5, 6, 7, 8)
}

// The whole place goes, what is left of its last page too; where it stays, nothing changes.
func TestSlideOfLargeKeepsWholePlace(t *testing.T) {
	h, s := empty(t, 6400)
	expectAlloc(t, h, 62, 2)
	expectAlloc(t, h, 63, 66)
	fill(t, s, 66, 126, 1<<40)
	was := wordsIn(t, s)
	expectSlide(t, h, 66, 66)
	expectSlide(t, h, 2, 2)
	expectSame(t, s, was)
	expectFree(t, h, 2)
	expectSlide(t, h, 66, 2)
	expectFilled(t, s, 2, 126, 1<<40)
}

func TestSlideLeavesOthers(t *testing.T) {
	h, s := empty(t, 6400)
	expectAlloc(t, h, 126, 2)
	expectAlloc(t, h, 2, 130)
	expectAlloc(t, h, 2, 132)
	expectAlloc(t, h, 2, 134)
	expectAlloc(t, h, 126, 194)
	expectAlloc(t, h, 62, 322)
	fill(t, s, 130, 6, 1<<40)
	fill(t, s, 322, 62, 1<<41)
	expectFree(t, h, 130, 2)
	expectSlide(t, h, 134, 130)
	expectSlide(t, h, 194, 2)
	expectFilled(t, s, 130, 2, 1<<40+4)
	expectFilled(t, s, 132, 2, 1<<40+2)
	expectFilled(t, s, 322, 62, 1<<41)
}
