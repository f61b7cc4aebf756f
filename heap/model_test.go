package heap

import (
	"maps"
	"slices"
	"testing"

	"loft/api"
	"loft/slab"
)

// piece is a block of the model.
type piece struct {
	class int // -1: it is large
	data  []uint64
}

// pages tells how many pages a block's place is on.
func (p *piece) pages() int {
	if p.class >= 0 {
		return 1
	}
	return (len(p.data) + 2 + 63) / 64
}

// model is a heap without an arena: blocks by their addresses. Which pages there are, and of what, follows from these.
type model struct {
	quota  int
	blocks map[int]*piece
}

// owners tells of each granted page the address of a block that is on it.
func (m *model) owners() map[int]int {
	out := map[int]int{}
	for a, p := range m.blocks {
		for k := range p.pages() {
			out[a/64+k] = a
		}
	}
	return out
}

func modelClass(words int) int {
	for c, size := range wantSizes {
		if words <= size {
			return c
		}
	}
	return -1
}

// slot tells the least free slot of a class.
func (m *model) slot(c int) (int, bool) {
	owners := m.owners()
	for _, page := range slices.Sorted(maps.Keys(owners)) {
		if m.blocks[owners[page]].class != c {
			continue
		}
		for k := range wantSlots[c] {
			a := page*64 + 2 + k*wantSizes[c]
			if m.blocks[a] == nil {
				return a, true
			}
		}
	}
	return 0, false
}

// run tells the least page from which on n are free, or the own ones of a block (0: of none).
func (m *model) run(n, own int) int {
	owners := m.owners()
	first := 0
	for k := 0; k < n; k++ {
		if a, taken := owners[first+k]; taken && a != own {
			first, k = first+k+1, -1
		}
	}
	return first
}

func (m *model) alloc(words int) (int, api.Errno) {
	if words < 1 || words > 4000 {
		return 0, api.ErrArg
	}
	p := &piece{class: modelClass(words), data: make([]uint64, words)}
	a, found := 0, false
	if p.class >= 0 {
		p.data = make([]uint64, wantSizes[p.class])
		a, found = m.slot(p.class)
	}
	if !found {
		if 64*(len(m.owners())+p.pages()) > m.quota {
			return 0, api.ErrQuota
		}
		a = m.run(p.pages(), 0)*64 + 2
	}
	m.blocks[a] = p
	return a, api.OK
}

func (m *model) free(addr int) api.Errno {
	if m.blocks[addr] == nil {
		return api.ErrNone
	}
	delete(m.blocks, addr)
	return api.OK
}

func (m *model) room(addr int) (int, api.Errno) {
	p := m.blocks[addr]
	if p == nil {
		return 0, api.ErrNone
	}
	return len(p.data), api.OK
}

func (m *model) slide(addr int) (int, api.Errno) {
	p := m.blocks[addr]
	if p == nil {
		return 0, api.ErrNone
	}
	to := addr
	if p.class < 0 {
		to = m.run(p.pages(), addr)*64 + 2
	} else if a, found := m.slot(p.class); found && a < addr {
		to = a
	}
	delete(m.blocks, addr)
	m.blocks[to] = p
	return to, api.OK
}

func (m *model) spare(c int) int {
	if c < 0 || c >= len(wantSizes) {
		return 0
	}
	pages, taken := map[int]int{}, 0
	for a, p := range m.blocks {
		if p.class == c {
			pages[a/64]++
			taken++
		}
	}
	return len(pages)*wantSlots[c] - taken
}

// heads tells the two words of all heads.
func (m *model) heads() map[int]head {
	out := map[int]head{}
	for a, p := range m.blocks {
		if p.class < 0 {
			out[a/64] = head{2 + 256*uint64(p.pages()), uint64(len(p.data))}
			continue
		}
		bit := uint64(1) << ((a%64 - 2) / wantSizes[p.class])
		out[a/64] = head{1 + 256*uint64(p.class), out[a/64].held | bit}
	}
	return out
}

// dice is a fixed row of numbers that look thrown.
type dice uint64

// below is a number from 0 to n less 1.
func (d *dice) below(n int) int {
	*d = *d*6364136223846793005 + 1442695040888963407
	return int(uint64(*d) >> 33 % uint64(n))
}

// words is how many a block is asked for: most of them few, and edges more often than others.
func (d *dice) words() int {
	edges := []int{0, 1, 2, 3, 19, 20, 28, 29, 62, 63, 126, 127, 4000, 4001}
	switch d.below(8) {
	case 0:
		return edges[d.below(len(edges))]
	case 1:
		return 29 + d.below(300)
	}
	return 1 + d.below(28)
}

// addr is mostly a block's.
func (d *dice) addr(m *model) int {
	live := slices.Sorted(maps.Keys(m.blocks))
	if len(live) == 0 || d.below(5) == 0 {
		return d.below(m.quota+200) - 50
	}
	return live[d.below(len(live))]
}

// answer is what a call told, and which one it was.
type answer struct {
	do, n int
	e     api.Errno
}

// play does one call on a heap and the same one on the model: what either told.
func play(d *dice, h *Heap, s *slab.Slab, m *model) (answer, answer) {
	do := d.below(10)
	got, want := answer{do: do}, answer{do: do}
	switch {
	case do < 4:
		words := d.words()
		got.n, got.e = h.Alloc(words)
		want.n, want.e = m.alloc(words)
	case do < 6:
		addr := d.addr(m)
		got.e, want.e = h.Free(addr), m.free(addr)
	case do < 8:
		addr := d.addr(m)
		got.n, got.e = h.Slide(addr)
		want.n, want.e = m.slide(addr)
	case do < 9:
		addr := d.addr(m)
		got.n, got.e = h.Room(addr)
		want.n, want.e = m.room(addr)
	default:
		write(d, s, m)
	}
	return got, want
}

// write fills a block. Amid a large one a page may look like one of small places then.
func write(d *dice, s *slab.Slab, m *model) {
	addr := d.addr(m)
	p := m.blocks[addr]
	if p == nil {
		return
	}
	for k := range p.data {
		p.data[k] = uint64(*d) + uint64(d.below(1000))
		if at := (addr + k) % 64; at < 2 {
			p.data[k] = 1
		}
		s.Write(addr+k, p.data[k])
	}
}

// expectModel holds all that a heap and its arena tell against the model.
func expectModel(t *testing.T, h *Heap, s *slab.Slab, m *model) {
	t.Helper()
	expectLive(t, h, slices.Sorted(maps.Keys(m.blocks))...)
	expectPages(t, s, slices.Sorted(maps.Keys(m.owners()))...)
	for n, d := range m.heads() {
		expectHead(t, s, n, d.mark, d.held)
	}
	for a, p := range m.blocks {
		expectRoom(t, h, a, len(p.data))
		for k, w := range p.data {
			expectWord(t, s, a+k, w)
		}
	}
	for c := -1; c < 10; c++ {
		expectSpare(t, h, c, m.spare(c))
	}
	expectAudit(t, h, api.OK)
	if 64*len(s.Pages()) > m.quota {
		t.Errorf("%d pages at a quota of %d", len(s.Pages()), m.quota)
	}
}

var quotas = []int{0, 64, 127, 320, 640, 1000, 2000, 6400}

func TestAgainstModel(t *testing.T) {
	for seed, quota := range quotas {
		h, s := empty(t, quota)
		m := &model{quota, map[int]*piece{}}
		d := dice(seed)
		for step := range 1500 {
			got, want := play(&d, h, s, m)
			if got != want {
				t.Fatalf("quota %d, step %d: %v, want %v", quota, step, got, want)
			}
			expectModel(t, h, s, m)
			if t.Failed() {
				t.Fatalf("quota %d, step %d: behind %v", quota, step, got)
			}
		}
	}
}

// A heap keeps nothing beside the arena: one that is made anew goes on as the elder one.
func TestHeapMadeAnewGoesOn(t *testing.T) {
	_, s := empty(t, 2000)
	m := &model{2000, map[int]*piece{}}
	d := dice(5)
	for step := range 1500 {
		h, e := New(s)
		if e != api.OK {
			t.Fatalf("step %d: %d", step, e)
		}
		if got, want := play(&d, h, s, m); got != want {
			t.Fatalf("step %d: %v, want %v", step, got, want)
		}
	}
}

// P4.6, told of what the heap itself says, without the model.
func TestBlocksAreApart(t *testing.T) {
	h, s := empty(t, 3000)
	m := &model{3000, map[int]*piece{}}
	d := dice(9)
	for step := range 1500 {
		play(&d, h, s, m)
		end := 0
		for _, a := range h.Live() {
			n, e := h.Room(a)
			if e != api.OK || a < end || a%64 < 2 {
				t.Fatalf("step %d: the block %d of %d words (%d) behind %d", step, a, n, e, end)
			}
			end = a + n
			for k := range n {
				if !s.Is((a + k) / 64) {
					t.Fatalf("step %d: the word %d is not granted", step, a+k)
				}
			}
		}
		expectAudit(t, h, api.OK)
	}
}

// settle slides all blocks till none slides any more.
func settle(t *testing.T, h *Heap) {
	t.Helper()
	for again := true; again; {
		again = false
		for _, a := range h.Live() {
			to, e := h.Slide(a)
			if e != api.OK || to > a {
				t.Fatalf("Slide(%d): %d, %d", a, to, e)
			}
			again = again || to < a
		}
	}
}

// P4.7
func TestNoneSlidesAnyMore(t *testing.T) {
	for seed, quota := range quotas {
		h, s := empty(t, quota)
		m := &model{quota, map[int]*piece{}}
		d := dice(seed + 100)
		for range 30 {
			for range 60 {
				play(&d, h, s, m)
			}
			before := len(h.Live())
			settle(t, h)
			for c, slots := range wantSlots {
				if n := h.Spare(c); n < 0 || n >= slots {
					t.Fatalf("quota %d: %d free slots of the class %d", quota, n, c)
				}
			}
			if n := len(h.Live()); n != before {
				t.Fatalf("quota %d: %d blocks, want %d", quota, n, before)
			}
			m = modelOf(t, h, s, quota)
			expectModel(t, h, s, m)
		}
	}
}

// modelOf makes a model of a heap anew.
func modelOf(t *testing.T, h *Heap, s *slab.Slab, quota int) *model {
	t.Helper()
	m := &model{quota, map[int]*piece{}}
	for _, a := range h.Live() {
		n, _ := h.Room(a)
		p := &piece{class: modelClass(n), data: make([]uint64, n)}
		for k := range n {
			p.data[k], _ = s.Read(a + k)
		}
		m.blocks[a] = p
	}
	return m
}

// P1 of the whole: the same calls have the same answers.
func TestSameCallsSameAnswers(t *testing.T) {
	row := func() []answer {
		h, s := empty(t, 2000)
		m := &model{2000, map[int]*piece{}}
		d := dice(77)
		var out []answer
		for range 3000 {
			got, _ := play(&d, h, s, m)
			out = append(out, got)
			for _, a := range h.Live() {
				out = append(out, answer{do: -1, n: a})
			}
		}
		return out
	}
	if !slices.Equal(row(), row()) {
		t.Error("the same calls have other answers")
	}
}
