package store

import (
	"maps"
	"math"
	"slices"
	"testing"

	"loft/api"
)

// piece is a record of the model.
type piece struct {
	h     api.Handle
	words []uint64
}

// class tells that of its place (-1: it is large).
func (p *piece) class() int {
	return slices.IndexFunc(wantSizes, func(size int) bool { return size >= len(p.words)+2 })
}

// pages tells how many pages its place is on.
func (p *piece) pages() int {
	if p.class() >= 0 {
		return 1
	}
	return (len(p.words) + 4 + 63) / 64
}

// model is a store as plain as the chapters' words: records by their addresses, and how often each slot was opened.
type model struct {
	quota, most int
	last        uint32
	gens        []uint32 // of the slots that were ever opened
	at          map[int]*piece
}

func newModel(quota, most int, last uint32) *model {
	return &model{quota: quota, most: most, last: last, at: map[int]*piece{}}
}

// owners tells of each granted page the address of a record that is on it.
func (m *model) owners() map[int]int {
	out := map[int]int{}
	for a, p := range m.at {
		for k := range p.pages() {
			out[a/64+k] = a
		}
	}
	return out
}

// slot tells the least free place of a class that the pages have.
func (m *model) slot(c int) (int, bool) {
	if c < 0 {
		return 0, false
	}
	owners := m.owners()
	for _, page := range slices.Sorted(maps.Keys(owners)) {
		if m.at[owners[page]].class() != c {
			continue
		}
		for k := range wantSlots[c] {
			if a := page*64 + 2 + k*wantSizes[c]; m.at[a] == nil {
				return a, true
			}
		}
	}
	return 0, false
}

// run tells the least page from which on n are free, or the own ones of a large record.
func (m *model) run(n int, own *piece) int {
	owners := m.owners()
	first := 0
	for k := 0; k < n; k++ {
		if a, taken := owners[first+k]; taken && m.at[a] != own {
			first, k = first+k+1, -1
		}
	}
	return first
}

// name tells the handle that the next record gets (0: there is none).
func (m *model) name() api.Handle {
	isOpen := map[api.Handle]bool{}
	for _, p := range m.at {
		isOpen[p.h%gen1] = true
	}
	for k := range m.most {
		gen := uint32(0)
		if k < len(m.gens) {
			gen = m.gens[k]
		}
		if h := api.Handle(k + 1); !isOpen[h] && gen < m.last {
			return h + api.Handle(gen+1)*gen1
		}
	}
	return 0
}

func (m *model) make(n int) (api.Handle, api.Errno) {
	if n < 0 || n > 3998 {
		return 0, api.ErrArg
	}
	p := &piece{words: make([]uint64, n)}
	a, found := m.slot(p.class())
	if !found {
		if 64*(len(m.owners())+p.pages()) > m.quota {
			return 0, api.ErrQuota
		}
		a = m.run(p.pages(), nil)*64 + 2
	}
	p.h = m.name()
	if p.h == 0 {
		return 0, api.ErrFull
	}
	slot := int(p.h % gen1)
	if slot > len(m.gens) {
		m.gens = append(m.gens, 0)
	}
	m.gens[slot-1]++
	m.at[a] = p
	return p.h, api.OK
}

// find tells the address and the record of a handle that is live.
func (m *model) find(h api.Handle) (int, *piece) {
	for a, p := range m.at {
		if p.h == h {
			return a, p
		}
	}
	return 0, nil
}

func (m *model) drop(h api.Handle) api.Errno {
	a, p := m.find(h)
	if p == nil {
		return api.ErrStale
	}
	delete(m.at, a)
	return api.OK
}

func (m *model) get(h api.Handle, k int) (uint64, api.Errno) {
	_, p := m.find(h)
	if p == nil {
		return 0, api.ErrStale
	}
	if k < 0 || k >= len(p.words) {
		return 0, api.ErrArg
	}
	return p.words[k], api.OK
}

func (m *model) put(h api.Handle, k int, w uint64) api.Errno {
	_, e := m.get(h, k)
	if e == api.OK {
		_, p := m.find(h)
		p.words[k] = w
	}
	return e
}

func (m *model) slide(h api.Handle) (bool, api.Errno) {
	a, p := m.find(h)
	if p == nil {
		return false, api.ErrStale
	}
	to, found := m.slot(p.class())
	if p.class() < 0 {
		to, found = m.run(p.pages(), p)*64+2, true
	}
	if !found || to >= a {
		return false, api.OK
	}
	delete(m.at, a)
	m.at[to] = p
	return true, api.OK
}

func (m *model) all() []api.Handle {
	var out []api.Handle
	for _, a := range slices.Sorted(maps.Keys(m.at)) {
		out = append(out, m.at[a].h)
	}
	return out
}

func (m *model) spare() []int {
	out := make([]int, 8)
	pages := map[int]int{}
	for a, p := range m.at {
		if c := p.class(); c >= 0 {
			pages[a/64] = c
			out[c]--
		}
	}
	for _, c := range pages {
		out[c] += wantSlots[c]
	}
	return out
}

// raw is all of it, word by word.
func (m *model) raw() api.Raw {
	words := map[int]*[64]uint64{}
	for n := range m.owners() {
		words[n] = new([64]uint64)
	}
	r := api.Raw{Quota: m.quota, Most: m.most, Last: m.last}
	for _, gen := range m.gens {
		r.Slots = append(r.Slots, api.Slot{Gen: gen})
	}
	for a, p := range m.at {
		head, n := words[a/64], uint64(len(p.words))
		if c := p.class(); c >= 0 {
			head[0] = 1 + 256*uint64(c)
			head[1] |= 1 << ((a%64 - 2) / wantSizes[c])
		} else {
			head[0], head[1] = 2+256*uint64(p.pages()), n+2
		}
		for k, w := range append([]uint64{uint64(p.h), n}, p.words...) {
			words[(a+k)/64][(a+k)%64] = w
		}
		r.Slots[p.h%gen1-1] = api.Slot{Open: true, Gen: uint32(p.h / gen1), Addr: a}
	}
	for _, n := range slices.Sorted(maps.Keys(words)) {
		r.Pages = append(r.Pages, api.Page{N: n, W: *words[n]})
	}
	return r
}

// dice is a fixed row of numbers that look thrown.
type dice uint64

// below is a number from 0 to n less 1.
func (d *dice) below(n int) int {
	*d = *d*6364136223846793005 + 1442695040888963407
	return int(uint64(*d) >> 33 % uint64(n))
}

// length is mostly a small one, and edges more often than others.
func (d *dice) length() int {
	edges := []int{-1, 0, 1, 17, 18, 26, 27, 60, 61, 124, 125, 3998, 3999, math.MinInt, math.MaxInt}
	switch d.below(8) {
	case 0:
		return edges[d.below(len(edges))]
	case 1:
		return 27 + d.below(300)
	}
	return d.below(27)
}

// handle is mostly a live one, else one that is near them.
func (d *dice) handle(m *model) api.Handle {
	if all := m.all(); len(all) > 0 && d.below(6) > 0 {
		return all[d.below(len(all))]
	}
	return api.Handle(d.below(min(m.most, 30)+2)) + api.Handle(d.below(5))*gen1
}

// answer is what a call told, and which one it was.
type answer struct {
	do int
	h  api.Handle
	w  uint64
	is bool
	e  api.Errno
}

// play does one call on a store and the same one on the model: what either told.
func play(d *dice, s *Store, m *model) (answer, answer) {
	do := d.below(12)
	got, want := answer{do: do}, answer{do: do}
	switch {
	case do < 4:
		n := d.length()
		got.h, got.e = s.Make(n)
		want.h, want.e = m.make(n)
	case do < 6:
		h := d.handle(m)
		got.e, want.e = s.Drop(h), m.drop(h)
	case do < 8:
		h := d.handle(m)
		got.is, got.e = s.Slide(h)
		want.is, want.e = m.slide(h)
	case do < 9:
		h, k := d.handle(m), d.below(30)-2
		got.w, got.e = s.Get(h, k)
		want.w, want.e = m.get(h, k)
	default:
		h, w := d.handle(m), uint64(*d)
		_, p := m.find(h)
		if p == nil || d.below(4) == 0 {
			k := d.below(30) - 2
			got.e, want.e = s.Put(h, k, w), m.put(h, k, w)
			break
		}
		for k := range p.words { // all of them: amid a large one pages may look like any others then
			w = uint64(d.below(3)) + w*uint64(d.below(2))
			got.e, want.e = max(got.e, s.Put(h, k, w)), max(want.e, m.put(h, k, w))
		}
	}
	return got, want
}

// expectModel holds all that a store tells against the model.
func expectModel(t *testing.T, s *Store, m *model) {
	t.Helper()
	expectAll(t, s, m.all()...)
	expectWords(t, s, 64*len(m.owners()))
	expectSpare(t, s, m.spare()...)
	for _, p := range m.at {
		expectRecord(t, s, p.h, p.words...)
	}
	expectRaw(t, s, m.raw())
	expect(t, "Audit", s.Audit(), api.OK)
	if s.Words() > m.quota {
		t.Errorf("%d words at a quota of %d", s.Words(), m.quota)
	}
}

// shapes are quotas, slots and last generations of stores that are tried.
var shapes = []struct {
	quota, slots int
	last         uint32
}{
	{0, 5, 5}, {64, 1, 1}, {64, 3, 2}, {127, 10, 9}, {640, 1, 1000}, {640, 10, 9}, {640, 1000, 1}, {1000, 8, api.MaxGen}, {2000, 30, 1000}, {6400, 20, 30}, {6400, 65536, 40}, {1 << 18, 40, 500},
}

// P6.6

func TestAgainstModel(t *testing.T) {
	for seed, c := range shapes {
		s, m := empty(t, c.quota, c.slots, c.last), newModel(c.quota, c.slots, c.last)
		d := dice(seed)
		refused := map[api.Errno]int{}
		for step := range 1200 {
			got, want := play(&d, s, m)
			if got != want {
				t.Fatalf("New(%d, %d, %d), step %d: %v, want %v", c.quota, c.slots, c.last, step, got, want)
			}
			expectModel(t, s, m)
			if t.Failed() {
				t.Fatalf("New(%d, %d, %d), step %d: behind %v", c.quota, c.slots, c.last, step, got)
			}
			refused[got.e]++
		}
		if c.quota == 640 && c.slots == 10 && (refused[api.ErrQuota] == 0 || refused[api.ErrFull] == 0) {
			t.Errorf("the calls do not try all refusals: %v", refused)
		}
	}
}

// disturb makes, drops or slides records beside one.
func disturb(t *testing.T, d *dice, s *Store, but api.Handle) {
	t.Helper()
	if d.below(2) == 0 {
		if h, e := s.Make(d.length()); e == api.OK {
			fill(t, s, h, uint64(*d))
		}
		return
	}
	all := slices.DeleteFunc(s.All(), func(h api.Handle) bool { return h == but })
	if len(all) == 0 {
		return
	}
	h := all[d.below(len(all))]
	if d.below(2) == 0 {
		expectDrop(t, s, h)
	} else if _, e := s.Slide(h); e != api.OK {
		t.Errorf("Slide(%x): %d", h, e)
	}
}

// Told without the model: a record's words stay, whatever is made, dropped or slides beside it, and where it slides itself.
func TestWordsStay(t *testing.T) {
	for seed, n := range []int{0, 1, 3, 11, 26, 27, 130} {
		s := empty(t, 3000, 50, 1000)
		d := dice(seed + 40)
		slid := 0
		for range 20 {
			for range 20 {
				disturb(t, &d, s, 0)
			}
			h, e := s.Make(n)
			if e != api.OK {
				continue
			}
			row := fill(t, s, h, 1<<55)
			for range 40 {
				disturb(t, &d, s, h)
				expectRecord(t, s, h, row...)
			}
			if is, _ := s.Slide(h); is {
				slid++
			}
			expectRecord(t, s, h, row...)
			expectDrop(t, s, h)
		}
		if slid == 0 {
			t.Errorf("a record of %d words never went elsewhere", n)
		}
	}
}

// A refused call, whichever it is, leaves a store that goes on as if it had not been.
func TestRefusalsChangeNothing(t *testing.T) {
	for seed, c := range shapes {
		s, m := empty(t, c.quota, c.slots, c.last), newModel(c.quota, c.slots, c.last)
		d := dice(seed + 300)
		for step := range 1000 {
			was := s.Raw()
			if got, _ := play(&d, s, m); got.e != api.OK && !sameRaw(s.Raw(), was) {
				t.Fatalf("New(%d, %d, %d), step %d: %v changes the store", c.quota, c.slots, c.last, step, got)
			}
		}
	}
}

// Free places of a raw may have any words, which Raw tells: a Make that is refused leaves these, too, and one that is not wipes them.
func TestRefusalLeavesFreePlaces(t *testing.T) {
	r := few()
	for k := range r.Pages {
		for at, w := range r.Pages[k].W {
			if w == 0 {
				r.Pages[k].W[at] = uint64(1000*k + at)
			}
		}
	}
	r.Pages[3].W[63] = 0 // the length of the last record
	r.Most, r.Slots[1].Gen = 6, 5
	s := storeOf(t, r)
	for _, n := range []int{0, 1, 3, 4, 26, 27, 61} {
		expectNotMade(t, s, n, api.ErrFull)
	}
	expectNotMade(t, s, 500, api.ErrQuota)
	expectRaw(t, s, r)
	expectDrop(t, s, few1)
	expectMake(t, s, 4, 1+3*gen1)
	expectRecord(t, s, 1+3*gen1, 0, 0, 0, 0)
	expectDrop(t, s, 1+3*gen1)
	expectMake(t, s, 0, 1+4*gen1)
	expectRecord(t, s, 1+4*gen1)
	expect(t, "Audit", s.Audit(), api.OK)
}

// P6.7

func TestOfRawGoesOn(t *testing.T) {
	for seed, c := range shapes {
		s, m := empty(t, c.quota, c.slots, c.last), newModel(c.quota, c.slots, c.last)
		d := dice(seed + 20)
		for step := range 1000 {
			s = storeOf(t, s.Raw())
			got, want := play(&d, s, m)
			if got != want {
				t.Fatalf("New(%d, %d, %d), step %d: %v, want %v", c.quota, c.slots, c.last, step, got, want)
			}
		}
		expectModel(t, s, m)
	}
}

// Both are played on side by side from there on, and tell the same all the way.
func TestStoresOfOneRawGoOnAlike(t *testing.T) {
	for seed, c := range shapes {
		a, m := empty(t, c.quota, c.slots, c.last), newModel(c.quota, c.slots, c.last)
		d := dice(seed + 60)
		for range 300 {
			play(&d, a, m)
		}
		b := storeOf(t, a.Raw())
		for step := range 300 {
			again := d
			before := cloneOf(m)
			fromA, _ := play(&d, a, m)
			fromB, _ := play(&again, b, before)
			if fromA != fromB || !sameRaw(a.Raw(), b.Raw()) || !slices.Equal(a.All(), b.All()) {
				t.Fatalf("New(%d, %d, %d), step %d: %v and %v", c.quota, c.slots, c.last, step, fromA, fromB)
			}
		}
	}
}

// cloneOf is a model that shares nothing with that one.
func cloneOf(m *model) *model {
	out := newModel(m.quota, m.most, m.last)
	out.gens = slices.Clone(m.gens)
	for a, p := range m.at {
		out.at[a] = &piece{p.h, slices.Clone(p.words)}
	}
	return out
}

// A raw by hand goes on as the model does that is of the same state.
func TestHandMadeRawGoesOn(t *testing.T) {
	s := storeOf(t, few())
	m := newModel(640, 9, 5)
	m.gens = []uint32{2, 4, 5, 1, 5, 3}
	large := make([]uint64, 100)
	large[0], large[1], large[60], large[61] = 51, 52, 1, 1
	m.at[3*64+2] = &piece{few1, []uint64{31, 32, 33}}
	m.at[3*64+14] = &piece{few4, []uint64{41, 42, 43, 44}}
	m.at[5*64+2] = &piece{few5, large}
	m.at[api.LastPage*64+62] = &piece{few6, nil}
	d := dice(8)
	for step := range 300 {
		expectModel(t, s, m)
		if got, want := play(&d, s, m); got != want || t.Failed() {
			t.Fatalf("step %d: %v, want %v", step, got, want)
		}
	}
}

// P1 of the whole: the same calls have the same answers.
func TestSameCallsSameAnswers(t *testing.T) {
	row := func() []answer {
		s, m := empty(t, 2000, 20, 60), newModel(2000, 20, 60)
		d := dice(77)
		var out []answer
		for range 2000 {
			got, _ := play(&d, s, m)
			out = append(out, got)
			for _, h := range s.All() {
				out = append(out, answer{do: -1, h: h})
			}
		}
		return out
	}
	if !slices.Equal(row(), row()) {
		t.Error("the same calls have other answers")
	}
}
