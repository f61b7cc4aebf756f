package compact

import (
	"math"
	"slices"
	"testing"

	"loft/api"
	"loft/store"
)

// empty makes a store without records.
func empty(t *testing.T, quota int) *store.Store {
	t.Helper()
	s, e := store.New(quota, 5000, api.MaxGen)
	if s == nil || e != api.OK {
		t.Fatalf("a store of %d words: %v, %d", quota, s, e)
	}
	return s
}

// storeOf makes a store of a raw.
func storeOf(t *testing.T, r api.Raw) *store.Store {
	t.Helper()
	s, e := store.Of(r)
	if s == nil || e != api.OK {
		t.Fatalf("a store of a raw: %v, %d", s, e)
	}
	return s
}

// compactor makes one of a store.
func compactor(t *testing.T, s *store.Store) *Compactor {
	t.Helper()
	c, e := New(s)
	if c == nil || e != api.OK {
		t.Fatalf("New: %v, %d", c, e)
	}
	return c
}

// made makes records.
func made(t *testing.T, s *store.Store, lengths ...int) []api.Handle {
	t.Helper()
	var row []api.Handle
	for _, n := range lengths {
		h, e := s.Make(n)
		if h == 0 || e != api.OK {
			t.Fatalf("Make(%d): %x, %d", n, h, e)
		}
		row = append(row, h)
	}
	return row
}

// times is so many times a length.
func times(count, n int) []int {
	return slices.Repeat([]int{n}, count)
}

// dropped drops records.
func dropped(t *testing.T, s *store.Store, hs ...api.Handle) {
	t.Helper()
	for _, h := range hs {
		expect(t, "Drop", s.Drop(h), api.OK)
	}
}

// fill puts words that count up from first on into a record: all of them.
func fill(t *testing.T, s *store.Store, h api.Handle, first uint64) []uint64 {
	t.Helper()
	n, e := s.Len(h)
	if e != api.OK {
		t.Fatalf("Len(%x): %d", h, e)
	}
	row := make([]uint64, n)
	for k := range row {
		row[k] = first + uint64(k)
		expect(t, "Put", s.Put(h, k, row[k]), api.OK)
	}
	return row
}

// filled fills all records: what they must have.
func filled(t *testing.T, s *store.Store) map[api.Handle][]uint64 {
	t.Helper()
	want := map[api.Handle][]uint64{}
	for _, h := range s.All() {
		want[h] = fill(t, s, h, uint64(h)<<12)
	}
	return want
}

func expect(t *testing.T, what string, got, want api.Errno) {
	t.Helper()
	if got != want {
		t.Errorf("%s: %d, want %d", what, got, want)
	}
}

func expectStep(t *testing.T, c *Compactor, want bool) {
	t.Helper()
	if moved, e := c.Step(); moved != want || e != api.OK {
		t.Errorf("Step: %t, %d; want %t", moved, e, want)
	}
}

func expectRun(t *testing.T, c *Compactor, budget, want int, wantDone bool) {
	t.Helper()
	if n, done, e := c.Run(budget); n != want || done != wantDone || e != api.OK {
		t.Errorf("Run(%d): %d, %t, %d; want %d, %t", budget, n, done, e, want, wantDone)
	}
}

func expectNotRun(t *testing.T, c *Compactor, budget int, want api.Errno) {
	t.Helper()
	if n, done, e := c.Run(budget); n != 0 || done || e != want {
		t.Errorf("Run(%d): %d, %t, %d; want the error %d", budget, n, done, e, want)
	}
}

// run is a Run that is not refused.
func run(t *testing.T, c *Compactor, budget int) (int, bool) {
	t.Helper()
	n, done, e := c.Run(budget)
	expect(t, "Run", e, api.OK)
	return n, done
}

// expectRecord holds the length and all words of a record.
func expectRecord(t *testing.T, s *store.Store, h api.Handle, words ...uint64) {
	t.Helper()
	if n, e := s.Len(h); n != len(words) || e != api.OK {
		t.Errorf("Len(%x): %d, %d; want %d", h, n, e, len(words))
	}
	for k, want := range words {
		if w, e := s.Get(h, k); w != want || e != api.OK {
			t.Errorf("Get(%x, %d): %d, %d; want %d", h, k, w, e, want)
			return
		}
	}
}

// expectAt holds the address of one record.
func expectAt(t *testing.T, s *store.Store, h api.Handle, want int) {
	t.Helper()
	if got := s.Raw().Slots[h%(1<<32)-1].Addr; got != want {
		t.Errorf("the record %x is at %d, want %d", h, got, want)
	}
}

func expectWords(t *testing.T, s *store.Store, want int) {
	t.Helper()
	if got := s.Words(); got != want {
		t.Errorf("%d words are granted, want %d", got, want)
	}
}

func expectRaw(t *testing.T, s *store.Store, want api.Raw) {
	t.Helper()
	got := s.Raw()
	if got.Quota != want.Quota || got.Most != want.Most || got.Last != want.Last || !slices.Equal(got.Pages, want.Pages) || !slices.Equal(got.Slots, want.Slots) {
		t.Errorf("the store is another one: %v, want %v", got, want)
	}
}

// expectDone holds what is promised of a store that is done: no record slides, each class has fewer free slots than a page has, and further steps do nothing.
func expectDone(t *testing.T, s *store.Store) {
	t.Helper()
	was := s.Raw()
	if p, moves := layoutOf(t, s).next(); moves {
		t.Errorf("it is not done: %v", p)
	}
	for k, slots := range wantSlots {
		if got := s.Spare(k); got >= slots {
			t.Errorf("class %d has %d free slots, and a page %d", k, got, slots)
		}
	}
	c := compactor(t, s)
	expectStep(t, c, false)
	expectRun(t, c, 0, 0, false)
	expectRun(t, c, 1, 0, true)
	expectRun(t, c, math.MaxInt, 0, true)
	expectRaw(t, s, was)
	for _, h := range s.All() {
		if moved, e := s.Slide(h); moved || e != api.OK {
			t.Errorf("Slide(%x): %t, %d", h, moved, e)
		}
	}
}

func TestExamples(t *testing.T) {
	s := empty(t, 640)
	c := compactor(t, s)
	row := made(t, s, 0, 0, 0)
	dropped(t, s, row[0])
	expectStep(t, c, true)
	expectAt(t, s, row[1], 4)
	expectAt(t, s, row[2], 2)
	expectStep(t, c, false)
	expectDone(t, s)
}

// P7.1

func TestNoStore(t *testing.T) {
	refused, _ := store.New(-1, 1, 1)
	form, _ := store.Of(api.Raw{Quota: 64, Most: 1, Last: 1, Pages: []api.Page{{}}})
	for k, s := range []*store.Store{nil, {}, refused, form} {
		if c, e := New(s); c != nil || e != api.ErrNil {
			t.Errorf("%d: New: %v, %d", k, c, e)
		}
	}
}

func TestNewOfAnyStore(t *testing.T) {
	for _, quota := range []int{0, 1, 64, 1 << 18} {
		for _, slots := range []int{1, 65536} {
			for _, last := range []uint32{1, api.MaxGen} {
				s, _ := store.New(quota, slots, last)
				was := s.Raw()
				compactor(t, s)
				expectRaw(t, s, was)
			}
		}
	}
}

// New itself slides nothing.
func TestNewLeavesRecords(t *testing.T) {
	s := empty(t, 640)
	dropped(t, s, made(t, s, 0, 0, 100, 100)[0])
	was := s.Raw()
	compactor(t, s)
	compactor(t, s)
	expectRaw(t, s, was)
}

// P7.1, P7.2: compactors that are not there, or that nobody made. ErrNil goes ahead of ErrArg.
func TestNoCompactor(t *testing.T) {
	refused, _ := New(nil)
	zero, _ := New(new(store.Store))
	for k, c := range []*Compactor{nil, {}, refused, zero} {
		if moved, e := c.Step(); moved || e != api.ErrNil {
			t.Errorf("%d: Step: %t, %d", k, moved, e)
		}
		for _, budget := range []int{0, 1, 1000, math.MaxInt, -1, math.MinInt} {
			expectNotRun(t, c, budget, api.ErrNil)
		}
	}
}

func TestStoreWithoutRecords(t *testing.T) {
	for _, quota := range []int{0, 64, 1 << 18} {
		s := empty(t, quota)
		c := compactor(t, s)
		expectStep(t, c, false)
		expectRun(t, c, 0, 0, false)
		expectRun(t, c, 1, 0, true)
		expectDone(t, s)
	}
	s := empty(t, 640) // one that had some
	dropped(t, s, made(t, s, 0, 5, 100)...)
	expectRun(t, compactor(t, s), 5, 0, true)
	expectDone(t, s)
}

// One record of each length, which lies alone at the least place, or above a free one.
func TestOneRecord(t *testing.T) {
	for _, n := range []int{0, 1, 2, 3, 4, 25, 26, 27, 28, 60, 61, 124, 125, 3997, 3998} {
		s := empty(t, 1<<18)
		h := made(t, s, n)[0]
		was := s.Raw()
		expectStep(t, compactor(t, s), false)
		expectRaw(t, s, was)
		expectDone(t, s)

		s = empty(t, 1<<18)
		row := made(t, s, n, n)
		dropped(t, s, row[0])
		want := filled(t, s)
		c := compactor(t, s)
		moves := layoutOf(t, s)[0].addr != 2
		expectStep(t, c, moves)
		expectAt(t, s, row[1], 2)
		expectStep(t, c, false)
		expectRecords(t, s, want)
		expectDone(t, s)
		if row[0] != h {
			t.Errorf("%x, want %x", row[0], h)
		}
	}
}

// Small records go by falling addresses: across classes the greatest address counts, not the class, the handle or when it was made.
func TestSmallByFallingAddresses(t *testing.T) {
	s := empty(t, 6400)
	row := made(t, s, 0, 0, 0, 26, 26, 7, 7, 7)
	dropped(t, s, row[0], row[3], row[5])
	last := made(t, s, 1, 1) // the least handles, the greatest addresses
	dropped(t, s, last[0])
	want := filled(t, s)
	c := compactor(t, s)
	for _, p := range []struct {
		h  api.Handle
		to int
	}{{last[1], 3*64 + 2}, {row[7], 2*64 + 2}, {row[4], 64 + 2}, {row[2], 2}} {
		expectStep(t, c, true)
		expectAt(t, s, p.h, p.to)
		expectRecords(t, s, want)
	}
	expectAt(t, s, row[1], 4)
	expectAt(t, s, row[6], 2*64+11)
	expectStep(t, c, false)
	expectDone(t, s)
}

// Of one class the last one goes to the first place, though one between could, too.
func TestLastOneFirst(t *testing.T) {
	for k, size := range wantSizes {
		s := empty(t, 6400)
		row := made(t, s, times(3*wantSlots[k], size-2)...)
		dropped(t, s, row[0])
		was := layoutOf(t, s)
		expectStep(t, compactor(t, s), true)
		expectAt(t, s, row[len(row)-1], 2)
		if got := layoutOf(t, s); !slices.Equal(got[1:], was[:len(was)-1]) {
			t.Errorf("class %d: others went elsewhere: %v", k, got)
		}
		expectStep(t, compactor(t, s), false)
		expectDone(t, s)
	}
}

// A record that can't go elsewhere is passed over, one of another class below it is not.
func TestStuckClassIsPassedOver(t *testing.T) {
	s := empty(t, 6400)
	row := made(t, s, append(times(31+31, 0), 26, 26, 26)...)
	dropped(t, s, row[1], row[40])
	c := compactor(t, s)
	expectStep(t, c, true)
	expectAt(t, s, row[61], 4)
	expectStep(t, c, true)
	expectAt(t, s, row[60], 64+2+2*(40-31))
	expectStep(t, c, false)
	expectAt(t, s, row[64], 3*64+2)
	expectDone(t, s)
}

// Large records go by rising addresses.
func TestLargeByRisingAddresses(t *testing.T) {
	s := empty(t, 6400)
	row := made(t, s, 100, 100, 30, 200, 100) // pages 0 1, 2 3, 4, 5 6 7 8, 9 10
	dropped(t, s, row[0])
	want := filled(t, s)
	c := compactor(t, s)
	for _, p := range []struct {
		h    api.Handle
		page int
	}{{row[1], 0}, {row[2], 2}, {row[3], 3}, {row[4], 7}} {
		expectStep(t, c, true)
		expectAt(t, s, p.h, 64*p.page+2)
		expectRecords(t, s, want)
	}
	expectStep(t, c, false)
	expectWords(t, s, 64*9)
	expectDone(t, s)
}

// The first one that goes elsewhere, not the first one: it does not fit, the next but one does; and none is tried above it.
func TestLargeThatDoNotFitArePassedOver(t *testing.T) {
	s := empty(t, 6400)
	row := made(t, s, 30, 0, 100, 200, 30, 30) // pages 0, 1, 2 3, 4 5 6 7, 8, 9
	dropped(t, s, row[0])
	c := compactor(t, s)
	expectStep(t, c, true)
	expectAt(t, s, row[4], 2)
	for k, page := range []int{1, 2, 4} {
		expectAt(t, s, row[1+k], 64*page+2)
	}
	expectStep(t, c, true)
	expectAt(t, s, row[5], 8*64+2)
	expectStep(t, c, false)
	expectDone(t, s)
}

// Small ones go first, wherever they are; what they leave is there for large ones.
func TestSmallAheadOfLarge(t *testing.T) {
	s := empty(t, 6400)
	row := made(t, s, append(times(31, 0), 0, 100, 100, 26, 26, 26)...) // pages 0, 1, 2 3, 4 5, 6, 7
	dropped(t, s, row[5], row[32], row[34])
	want := filled(t, s)
	c := compactor(t, s)
	expectStep(t, c, true) // above the large one
	expectAt(t, s, row[36], 6*64+2)
	expectAt(t, s, row[33], 4*64+2)
	expectStep(t, c, true) // below it: page 1 goes
	expectAt(t, s, row[31], 2+2*5)
	expectAt(t, s, row[33], 4*64+2)
	expectStep(t, c, true) // then the large one
	expectAt(t, s, row[33], 64+2)
	expectStep(t, c, false) // small ones go to no page that they do not have
	expectAt(t, s, row[35], 6*64+30)
	expectWords(t, s, 64*4)
	expectRecords(t, s, want)
	expectDone(t, s)
}

// A record is large from 27 words on: as its block is, not its own words.
func TestSmallOrLargeByTheBlock(t *testing.T) {
	for _, c := range []struct {
		n     int
		lower bool // whether it goes to a free page, as large ones alone do
	}{{25, false}, {26, false}, {27, true}, {28, true}, {29, true}} {
		s := empty(t, 6400)
		row := made(t, s, 100, 0, c.n)
		dropped(t, s, row[0])
		expectStep(t, compactor(t, s), c.lower)
		if !c.lower {
			expectAt(t, s, row[2], 3*64+2)
			continue
		}
		expectAt(t, s, row[2], 2)
	}
	s := empty(t, 6400) // a large one that goes, below a small one that goes: 26 words are tried ahead of 27
	row := made(t, s, 30, 27, 26, 26)
	dropped(t, s, row[0], row[2])
	c := compactor(t, s)
	expectStep(t, c, true)
	expectAt(t, s, row[3], 2*64+2)
	expectAt(t, s, row[1], 64+2)
	expectStep(t, c, true)
	expectAt(t, s, row[1], 2)
	expectStep(t, c, false)
}

// Where the quota is used up steps go on: none of them needs room.
func TestStepsAtQuota(t *testing.T) {
	s := empty(t, 64*8)
	row := made(t, s, append(times(62, 0), 61, 61, 61)...)
	dropped(t, s, row[3], row[62])
	made(t, s, 30, 30)
	want := filled(t, s)
	expectWords(t, s, 64*8)
	if _, e := s.Make(30); e != api.ErrQuota {
		t.Errorf("the quota is not used up: %d", e)
	}
	n, done := run(t, compactor(t, s), 1000)
	if n != 1 || !done {
		t.Errorf("%d, %t", n, done)
	}
	expectAt(t, s, row[61], 2+2*3)
	expectRecords(t, s, want)
	expectDone(t, s)
}

// A store whose slots are all open, or retired: steps open none.
func TestStepsWithoutFreeSlots(t *testing.T) {
	s, _ := store.New(6400, 4, 1)
	row := made(t, s, 0, 0, 0, 100)
	dropped(t, s, row[0])
	if _, e := s.Make(0); e != api.ErrFull {
		t.Errorf("a slot is free: %d", e)
	}
	want := filled(t, s)
	expectRun(t, compactor(t, s), 5, 1, true)
	expectRecords(t, s, want)
	if _, e := s.Make(0); e != api.ErrFull {
		t.Errorf("a slot is free: %d", e)
	}
	if _, e := s.Len(row[0]); e != api.ErrStale {
		t.Errorf("a record that was dropped: %d", e)
	}
}

// P7.2

// Each budget from 0 on, where five records go elsewhere: as many steps as there are use it up, so nothing tells that it is done; one more tells.
func TestBudgets(t *testing.T) {
	for budget := range 9 {
		s := empty(t, 6400)
		row := made(t, s, append(times(35, 0), 26, 26, 26, 30, 100, 100)...)
		dropped(t, s, row[2], row[30], row[35], row[38])
		want := filled(t, s)
		n := min(budget, 5)
		c := compactor(t, s)
		expectRun(t, c, budget, n, budget > 5)
		expectRecords(t, s, want)
		expectRun(t, c, 9, 5-n, true)
		expectRecords(t, s, want)
		expectDone(t, s)
	}
}

func TestBudgetsThatMayNotBe(t *testing.T) {
	s := empty(t, 640)
	dropped(t, s, made(t, s, 0, 0, 100)[0])
	was := s.Raw()
	c := compactor(t, s)
	for _, budget := range []int{-1, -2, -64, -1 << 31, -1 << 32, math.MinInt + 1, math.MinInt} {
		expectNotRun(t, c, budget, api.ErrArg)
		expectNotRun(t, compactor(t, empty(t, 0)), budget, api.ErrArg)
	}
	expectRaw(t, s, was)
	expectRun(t, c, 0, 0, false)
	expectRaw(t, s, was)
	expectRun(t, c, math.MaxInt, 1, true)
}

// P7.3

// Records of 0 words and of MaxLen, and words that look like heads and handles.
func TestWordsOfRecordsStay(t *testing.T) {
	s := empty(t, 1<<18)
	row := made(t, s, 30, 0, 0, 3998, 0, 1, 3998, 26, 27, 3998)
	dropped(t, s, row[0], row[1], row[6])
	want := filled(t, s)
	for _, h := range []api.Handle{row[3], row[9]} {
		for k := range 3998 {
			want[h][k] = uint64(k % 3) // pages amid a large one look like pages of small places, and like large ones
			expect(t, "Put", s.Put(h, k, want[h][k]), api.OK)
		}
	}
	c := compactor(t, s)
	for moved, n := true, 0; moved; n++ {
		moved = expectModelStep(t, c, s)
		expectRecords(t, s, want)
		if moved != (n < 3) {
			t.Fatalf("step %d: %t", n, moved)
		}
	}
	expectDone(t, s)
}

// A record that is made where another one was has its own words, 0 at first.
func TestRecordsMadeBetweenSteps(t *testing.T) {
	s := empty(t, 640)
	row := made(t, s, times(10, 3)...)
	for _, h := range row {
		fill(t, s, h, 500)
	}
	dropped(t, s, row[0], row[1])
	c := compactor(t, s)
	expectStep(t, c, true)
	expectAt(t, s, row[9], 2)
	h := made(t, s, 3)[0] // the place of row[1]
	expectAt(t, s, h, 2+6)
	expectRecord(t, s, h, 0, 0, 0)
	expectStep(t, c, false)
	dropped(t, s, row[9])
	expectStep(t, c, true)
	expectAt(t, s, row[8], 2)
	for _, h := range row[2:9] {
		expectRecord(t, s, h, 500, 501, 502)
	}
	if _, e := s.Get(row[9], 0); e != api.ErrStale {
		t.Errorf("a record that was dropped: %d", e)
	}
}

// Two compactors of one store are as one.
func TestTwoCompactors(t *testing.T) {
	s := empty(t, 6400)
	row := made(t, s, 0, 0, 0, 0, 100, 100)
	dropped(t, s, row[0], row[1], row[4])
	a, b := compactor(t, s), compactor(t, s)
	expectStep(t, a, true)
	expectAt(t, s, row[3], 2)
	expectStep(t, b, true)
	expectAt(t, s, row[2], 4)
	expectStep(t, a, true)
	expectAt(t, s, row[5], 64+2)
	expectStep(t, b, false)
	expectStep(t, a, false)
}

// Compactors of two stores have nothing to do with each other.
func TestTwoStores(t *testing.T) {
	s, other := empty(t, 640), empty(t, 640)
	for _, x := range []*store.Store{s, other} {
		dropped(t, x, made(t, x, 0, 0)[0])
	}
	was := other.Raw()
	expectStep(t, compactor(t, s), true)
	expectRaw(t, other, was)
	expectStep(t, compactor(t, other), true)
}

// P7.4

// As many steps as there are records may be needed, and do.
func TestEachRecordGoesOnce(t *testing.T) {
	s := empty(t, 1<<18)
	row := made(t, s, append([]int{30}, times(60, 100)...)...)
	small := made(t, s, 0, 5, 9, 26, 0, 5, 9, 26)
	dropped(t, s, row[0])
	dropped(t, s, small[:4]...)
	want := filled(t, s)
	if len(want) != 64 {
		t.Fatalf("%d records", len(want))
	}
	raw := s.Raw()
	expectRun(t, compactor(t, s), 64, 64, false)
	expectRecords(t, s, want)
	expectDone(t, s)
	s = storeOf(t, raw)
	expectRun(t, compactor(t, s), 65, 64, true)
	expectDone(t, s)
}

// Pages that lie far apart, up to the last one, as a raw may have them: small ones stay on these, large ones come down.
func TestPagesFarApart(t *testing.T) {
	var r api.Raw
	r.Quota, r.Most, r.Last = 640, 9, 9
	page := func(n int, first ...uint64) {
		p := api.Page{N: n}
		copy(p.W[:], first)
		r.Pages = append(r.Pages, p)
	}
	const gen = 1 << 32
	page(7, 1, 4, 0, 0, 0, 0, gen+1)
	page(900, 1, 2, 0, 0, gen+2)
	page(5000, 2+256, 32, gen+3, 30)
	page(api.LastPage-1, 2+512, 102, gen+4, 100)
	page(api.LastPage, 1, 1)
	for _, a := range []int{7*64 + 6, 900*64 + 4, 5000*64 + 2, (api.LastPage-1)*64 + 2} {
		r.Slots = append(r.Slots, api.Slot{Open: true, Gen: 1, Addr: a})
	}
	s := storeOf(t, r)
	want := filled(t, s)
	c := compactor(t, s)
	for k, to := range []int{7*64 + 2, 7*64 + 4, 2, 64 + 2} {
		expectStep(t, c, true)
		expectAt(t, s, api.Handle(gen+[]uint64{2, 1, 3, 4}[k]), to)
		expectRecords(t, s, want)
		expect(t, "Audit", s.Audit(), api.OK)
	}
	expectStep(t, c, false)
	expectWords(t, s, 256)
	expectDone(t, s)
}

// The greatest store, full of large records that all go down by a page, or of small ones of which every second one is there.
func TestGreatestStores(t *testing.T) {
	s, _ := store.New(1<<18, 65536, api.MaxGen)
	row := made(t, s, append([]int{30}, times(65, 3998)...)...)
	want := map[api.Handle][]uint64{}
	for k, h := range row[1:] {
		want[h] = fill(t, s, h, uint64(k)<<20)
	}
	dropped(t, s, row[0])
	expectRun(t, compactor(t, s), 1000, 65, true)
	expectRecords(t, s, want)
	expectDone(t, s)

	s, _ = store.New(1<<18, 65536, api.MaxGen)
	row = made(t, s, times(4000, 5)...)
	for k := 0; k < len(row); k += 2 {
		dropped(t, s, row[k])
	}
	want = filled(t, s)
	expectRun(t, compactor(t, s), 1<<40, 1000, true)
	expectRecords(t, s, want)
	expectWords(t, s, 64*334)
	expectDone(t, s)
}
