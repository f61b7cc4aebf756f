package store

import (
	"math"
	"reflect"
	"slices"
	"testing"

	"loft/api"
)

// gen1 is what the first generation adds to a slot's number.
const gen1 = api.Handle(1) << 32

// wantSizes and wantSlots are the document's, written out.
var (
	wantSizes = []int{2, 3, 4, 6, 9, 13, 19, 28}
	wantSlots = []int{31, 20, 15, 10, 6, 4, 3, 2}
)

// noStores are stores that are not there, or that nobody made.
func noStores(t *testing.T) []*Store {
	t.Helper()
	refused, _ := New(-1, 1, 1)
	form, _ := Of(api.Raw{Quota: 64, Most: 1, Last: 1, Pages: []api.Page{{}}})
	return []*Store{nil, {}, refused, form}
}

// oddHandles are handles of no store here: of slot 0, of generation 0, of slots that none may have.
var oddHandles = []api.Handle{0, 1, 2, 65536, 65537, 1<<32 - 1, 1 << 32, 2 << 32, 1<<32 + 65537, 1<<33 - 1, 1<<32 + 1<<31, 1 << 63, 1<<64 - 1<<32, math.MaxUint64}

// badLengths are those that no record has.
var badLengths = []int{-1, -2, -3, 3999, 4000, 4001, 1 << 18, 1 << 32, math.MinInt, math.MinInt + 1, math.MaxInt - 1, math.MaxInt}

func empty(t *testing.T, quota, slots int, last uint32) *Store {
	t.Helper()
	s, e := New(quota, slots, last)
	if s == nil || e != api.OK {
		t.Fatalf("New(%d, %d, %d): %v, %d", quota, slots, last, s, e)
	}
	return s
}

// made makes a record.
func made(t *testing.T, s *Store, n int) api.Handle {
	t.Helper()
	h, e := s.Make(n)
	if h == 0 || e != api.OK {
		t.Fatalf("Make(%d): %x, %d", n, h, e)
	}
	return h
}

func expect(t *testing.T, what string, got, want api.Errno) {
	t.Helper()
	if got != want {
		t.Errorf("%s: %d, want %d", what, got, want)
	}
}

func expectMake(t *testing.T, s *Store, n int, want api.Handle) {
	t.Helper()
	if h, e := s.Make(n); h != want || e != api.OK {
		t.Errorf("Make(%d): %x, %d; want %x", n, h, e, want)
	}
}

// expectNotMade also holds that a refusal leaves all as it was.
func expectNotMade(t *testing.T, s *Store, n int, want api.Errno) {
	t.Helper()
	was := s.Raw()
	if h, e := s.Make(n); h != 0 || e != want {
		t.Errorf("Make(%d): %x, %d; want the error %d", n, h, e, want)
	}
	expectRaw(t, s, was)
}

func expectDrop(t *testing.T, s *Store, hs ...api.Handle) {
	t.Helper()
	for _, h := range hs {
		if e := s.Drop(h); e != api.OK {
			t.Errorf("Drop(%x): %d", h, e)
		}
	}
}

func expectSlide(t *testing.T, s *Store, h api.Handle, want bool) {
	t.Helper()
	if is, e := s.Slide(h); is != want || e != api.OK {
		t.Errorf("Slide(%x): %t, %d; want %t", h, is, e, want)
	}
}

// expectFails holds all calls of a handle that are answered with that error.
func expectFails(t *testing.T, s *Store, h api.Handle, want api.Errno) {
	t.Helper()
	for _, k := range []int{-1, 0, 1, math.MaxInt} {
		if w, e := s.Get(h, k); w != 0 || e != want {
			t.Errorf("Get(%x, %d): %d, %d; want the error %d", h, k, w, e, want)
		}
		expect(t, "Put", s.Put(h, k, 5), want)
	}
	if n, e := s.Len(h); n != 0 || e != want {
		t.Errorf("Len(%x): %d, %d; want the error %d", h, n, e, want)
	}
	if is, e := s.Slide(h); is || e != want {
		t.Errorf("Slide(%x): %t, %d; want the error %d", h, is, e, want)
	}
	expect(t, "Drop", s.Drop(h), want)
}

// expectRecord holds the length and all words of a record, and the places beyond both ends.
func expectRecord(t *testing.T, s *Store, h api.Handle, words ...uint64) {
	t.Helper()
	if n, e := s.Len(h); n != len(words) || e != api.OK {
		t.Errorf("Len(%x): %d, %d; want %d", h, n, e, len(words))
	}
	for k, want := range words {
		if w, e := s.Get(h, k); w != want || e != api.OK {
			t.Errorf("Get(%x, %d): %d, %d; want %d", h, k, w, e, want)
			return
		}
	}
	for _, k := range []int{-1, len(words)} {
		if w, e := s.Get(h, k); w != 0 || e != api.ErrArg {
			t.Errorf("Get(%x, %d) of %d words: %d, %d", h, k, len(words), w, e)
		}
	}
}

func expectAll(t *testing.T, s *Store, want ...api.Handle) {
	t.Helper()
	if got := s.All(); !slices.Equal(got, want) {
		t.Errorf("All: %x, want %x", got, want)
	}
}

func expectWords(t *testing.T, s *Store, want int) {
	t.Helper()
	if got := s.Words(); got != want {
		t.Errorf("Words: %d, want %d", got, want)
	}
}

// expectSpare holds Spare of all classes, and of numbers that are none.
func expectSpare(t *testing.T, s *Store, want ...int) {
	t.Helper()
	for c, n := range want {
		if got := s.Spare(c); got != n {
			t.Errorf("Spare(%d): %d, want %d", c, got, n)
		}
	}
	for _, c := range []int{-1, 8, 9, 256, math.MinInt, math.MaxInt} {
		if got := s.Spare(c); got != 0 {
			t.Errorf("Spare(%d): %d", c, got)
		}
	}
}

func expectRaw(t *testing.T, s *Store, want api.Raw) {
	t.Helper()
	if got := s.Raw(); !sameRaw(got, want) {
		t.Errorf("Raw: %v, want %v", got, want)
	}
}

// sameRaw tells whether both say the same: empty rows are as none.
func sameRaw(a, b api.Raw) bool {
	return a.Quota == b.Quota && a.Most == b.Most && a.Last == b.Last && slices.Equal(a.Pages, b.Pages) && slices.Equal(a.Slots, b.Slots)
}

// fill puts words that count up from first on into a record: all of them.
func fill(t *testing.T, s *Store, h api.Handle, first uint64) []uint64 {
	t.Helper()
	n, e := s.Len(h)
	if e != api.OK {
		t.Fatalf("Len(%x): %d", h, e)
	}
	row := make([]uint64, n)
	for k := range row {
		row[k] = first + uint64(k)
		expect(t, "Put", s.Put(h, k, row[k]), api.OK)
	}
	return row
}

func TestExamples(t *testing.T) {
	s := empty(t, 640, 10, 9)
	expectMake(t, s, 2, 1+gen1)
	h := 1 + gen1
	expect(t, "Put", s.Put(h, 1, 7), api.OK)
	expectRecord(t, s, h, 0, 7)
	expectWords(t, s, 64)
	expectDrop(t, s, h)
	expectWords(t, s, 0)
	expectFails(t, s, h, api.ErrStale)
}

// P6.1

func TestNewTakes(t *testing.T) {
	for _, quota := range []int{0, 1, 63, 64, 640, 1<<18 - 1, 1 << 18} {
		for _, slots := range []int{1, 2, 65535, 65536} {
			for _, last := range []uint32{1, 2, 1 << 31, api.MaxGen - 1, api.MaxGen} {
				s := empty(t, quota, slots, last)
				expectAll(t, s)
				expectWords(t, s, 0)
				expectSpare(t, s, 0, 0, 0, 0, 0, 0, 0, 0)
				expect(t, "Audit", s.Audit(), api.OK)
				expectRaw(t, s, api.Raw{Quota: quota, Most: slots, Last: last})
				expectFails(t, s, 1+gen1, api.ErrStale)
			}
		}
	}
}

func TestNewRefuses(t *testing.T) {
	for _, c := range []struct {
		quota, slots int
		last         uint32
	}{
		{-1, 1, 1}, {1<<18 + 1, 1, 1}, {math.MinInt, 1, 1}, {math.MaxInt, 1, 1}, {1 << 32, 1, 1},
		{640, 0, 1}, {640, -1, 1}, {640, 65537, 1}, {640, math.MinInt, 1}, {640, math.MaxInt, 1}, {640, 1 << 32, 1},
		{640, 1, 0}, {0, 1, 0}, {-1, 0, 0}, {-1, 0, 1}, {640, 0, 0},
	} {
		if s, e := New(c.quota, c.slots, c.last); s != nil || e != api.ErrArg {
			t.Errorf("New(%d, %d, %d): %v, %d", c.quota, c.slots, c.last, s, e)
		}
	}
}

func TestNoStore(t *testing.T) {
	for k, s := range noStores(t) {
		for _, n := range []int{0, 1, 3998, -1, 3999} {
			if h, e := s.Make(n); h != 0 || e != api.ErrNil {
				t.Errorf("%d: Make(%d): %x, %d", k, n, h, e)
			}
		}
		for _, h := range append(oddHandles, 1+gen1) {
			expectFails(t, s, h, api.ErrNil)
		}
		expectAll(t, s)
		expectWords(t, s, 0)
		expectSpare(t, s, 0, 0, 0, 0, 0, 0, 0, 0)
		expect(t, "Audit", s.Audit(), api.ErrNil)
		if r := s.Raw(); !reflect.DeepEqual(r, api.Raw{}) {
			t.Errorf("%d: Raw: %v", k, r)
		}
	}
}

func TestAllByAddresses(t *testing.T) {
	s := empty(t, 640, 10, 9)
	a, b, c, d := made(t, s, 2), made(t, s, 2), made(t, s, 100), made(t, s, 2)
	expectAll(t, s, a, b, d, c)
	expectDrop(t, s, b)
	expectAll(t, s, a, d, c)
	e := made(t, s, 0) // the slot of b, but on a page behind all others
	expectAll(t, s, a, d, c, e)
	f := made(t, s, 2) // a slot behind all others, but the place of b
	if e != 2+2*gen1 || f != 5+gen1 {
		t.Errorf("%x, %x", e, f)
	}
	expectAll(t, s, a, f, d, c, e)
	expectDrop(t, s, a, f, d) // the first page goes
	expectAll(t, s, c, e)
	expectSlide(t, s, e, false)
	expectSlide(t, s, c, true)
	expectAll(t, s, c, e)
	expectDrop(t, s, c, e)
	expectAll(t, s)
}

func TestAllIsNewMemory(t *testing.T) {
	s := empty(t, 640, 10, 9)
	a, b := made(t, s, 2), made(t, s, 2)
	row, other := s.All(), s.All()
	row[0], row[1] = 0, 0
	_ = append(row, 5)
	if !slices.Equal(other, []api.Handle{a, b}) {
		t.Errorf("answers of All share memory: %x", other)
	}
	expectAll(t, s, a, b)
	expectRecord(t, s, a, 0, 0)
}

func TestWordsArePages(t *testing.T) {
	s := empty(t, 6400, 100, 9)
	for k, c := range []struct{ n, words int }{{0, 64}, {0, 64}, {1, 128}, {2, 192}, {26, 256}, {26, 256}, {26, 320}, {27, 384}, {60, 448}, {61, 576}, {124, 704}, {125, 896}, {3998, 4928}} {
		made(t, s, c.n)
		if got := s.Words(); got != c.words {
			t.Errorf("%d: behind Make(%d): %d words, want %d", k, c.n, got, c.words)
		}
	}
	for _, h := range s.All() {
		expectDrop(t, s, h)
	}
	expectWords(t, s, 0)
}

func TestSpareOfEachClass(t *testing.T) {
	for c, size := range wantSizes {
		s := empty(t, 6400, 100, 9)
		for k := range 2 * wantSlots[c] {
			made(t, s, size-2)
			want := make([]int, 8)
			want[c] = wantSlots[c] - 1 - k%wantSlots[c]
			expectSpare(t, s, want...)
		}
		all := s.All()
		for k := range wantSlots[c] - 1 {
			expectDrop(t, s, all[k])
			if got := s.Spare(c); got != k+1 {
				t.Errorf("Spare(%d): %d, want %d", c, got, k+1)
			}
		}
		expectDrop(t, s, all[wantSlots[c]-1]) // its page goes
		expectSpare(t, s, make([]int, 8)...)
	}
	s := empty(t, 6400, 100, 9)
	made(t, s, 27)
	expectSpare(t, s, make([]int, 8)...)
}

// P6.2

func TestMakeOfEachLength(t *testing.T) {
	for n := 0; n <= 3998; n++ {
		if n > 200 && n < 3900 && n%37 != 0 {
			continue
		}
		s := empty(t, 64*63, 1, 1)
		expectMake(t, s, n, 1+gen1)
		expectRecord(t, s, 1+gen1, make([]uint64, n)...)
		expectAll(t, s, 1+gen1)
		expect(t, "Audit", s.Audit(), api.OK)
	}
}

func TestMakeRefusesLengths(t *testing.T) {
	full := empty(t, 64, 1, 1)
	made(t, full, 27)
	for _, s := range []*Store{empty(t, 6400, 10, 9), empty(t, 0, 1, 1), full} {
		for _, n := range badLengths {
			expectNotMade(t, s, n, api.ErrArg)
		}
	}
}

// The quota to a word: with one less it does not do.
func TestMakeWithinQuota(t *testing.T) {
	for _, c := range []struct{ n, quota int }{{0, 64}, {26, 64}, {27, 64}, {60, 64}, {61, 128}, {124, 128}, {125, 192}, {3996, 63 * 64}, {3998, 63 * 64}} {
		s := empty(t, c.quota, 2, 2)
		made(t, s, c.n)
		expectWords(t, s, c.quota)
		expect(t, "Audit", s.Audit(), api.OK)
		s = empty(t, c.quota-1, 2, 2)
		expectNotMade(t, s, c.n, api.ErrQuota)
		expectWords(t, s, 0)
		expectAll(t, s)
	}
	expectNotMade(t, empty(t, 0, 1, 1), 0, api.ErrQuota)
}

func TestMakeInGreatestStore(t *testing.T) {
	s := empty(t, 1<<18, 65536, api.MaxGen)
	for k := range 65 { // 63 pages each: one page is left of 4096
		expectMake(t, s, 3998, api.Handle(k+1)+gen1)
	}
	expectWords(t, s, 4095*64)
	expectNotMade(t, s, 61, api.ErrQuota)
	expectMake(t, s, 60, 66+gen1)
	expectWords(t, s, 1<<18)
	expectNotMade(t, s, 0, api.ErrQuota)
	expect(t, "Audit", s.Audit(), api.OK)
}

// A store whose quota is used up has still free slots of pages that it has.
func TestQuotaUsedUp(t *testing.T) {
	s := empty(t, 128, 100, 9)
	made(t, s, 0)
	made(t, s, 18)
	for _, n := range []int{1, 2, 3, 5, 8, 12, 27, 60, 61, 3998} {
		expectNotMade(t, s, n, api.ErrQuota)
	}
	expectSpare(t, s, 30, 0, 0, 0, 0, 0, 0, 1)
	h := made(t, s, 26)
	expectNotMade(t, s, 26, api.ErrQuota)
	for range 30 {
		made(t, s, 0)
	}
	expectNotMade(t, s, 0, api.ErrQuota)
	expectDrop(t, s, h)
	expectMake(t, s, 18, 3+2*gen1)
	expect(t, "Audit", s.Audit(), api.OK)
}

// A store all of whose slots are open: no length finds one, and no block is left.
func TestSlotsAllOpen(t *testing.T) {
	s := empty(t, 6400, 3, 9)
	a, b, c := made(t, s, 2), made(t, s, 2), made(t, s, 30)
	rows := [][]uint64{fill(t, s, a, 100), fill(t, s, b, 200), fill(t, s, c, 300)}
	for _, n := range []int{0, 1, 2, 3, 26, 27, 60, 61, 3998} {
		expectNotMade(t, s, n, api.ErrFull)
		expectWords(t, s, 128)
		expectAll(t, s, a, b, c)
		expectSpare(t, s, 0, 0, 13, 0, 0, 0, 0, 0)
		expect(t, "Audit", s.Audit(), api.OK)
	}
	expectRecord(t, s, a, rows[0]...)
	expectRecord(t, s, b, rows[1]...)
	expectRecord(t, s, c, rows[2]...)
	expectDrop(t, s, b)
	expectMake(t, s, 61, 2+2*gen1)
	expectNotMade(t, s, 0, api.ErrFull)
}

// Where both hold, the quota goes ahead.
func TestQuotaUsedUpAndSlotsAllOpen(t *testing.T) {
	s := empty(t, 128, 2, 9)
	made(t, s, 2)
	made(t, s, 60)
	for _, n := range []int{0, 1, 3, 26, 27, 60, 61, 3998} {
		expectNotMade(t, s, n, api.ErrQuota)
	}
	expectNotMade(t, s, 2, api.ErrFull) // a place of this class is free
	expectAll(t, s, 1+gen1, 2+gen1)
	expectWords(t, s, 128)
}

// As many slots as there may be, all open: one page's worth of them is made, the others come of a raw.
func TestSlotsAllOpenOfGreatestTable(t *testing.T) {
	r := manyRecords(65536 - 10)
	s := storeOf(t, r)
	for k := range 10 {
		expectMake(t, s, 0, api.Handle(65536-10+k+1)+gen1)
	}
	expectNotMade(t, s, 0, api.ErrFull)
	expectNotMade(t, s, 27, api.ErrFull)
	expect(t, "Audit", s.Audit(), api.OK)
	expectDrop(t, s, 30000+gen1)
	expectMake(t, s, 0, 30000+2*gen1)
}

func TestRetiredSlots(t *testing.T) {
	s := empty(t, 640, 2, 2)
	a := made(t, s, 1)
	for gen := range api.Handle(2) {
		expectMake(t, s, 1, 2+(gen+1)*gen1)
		expectDrop(t, s, 2+(gen+1)*gen1)
	}
	expectNotMade(t, s, 1, api.ErrFull) // slot 2 is retired
	expectFails(t, s, 2+2*gen1, api.ErrStale)
	expectFails(t, s, 2+3*gen1, api.ErrStale)
	expectDrop(t, s, a)
	expectMake(t, s, 1, 1+2*gen1)
	expectDrop(t, s, 1+2*gen1)
	for range 3 {
		expectNotMade(t, s, 1, api.ErrFull)
		expectNotMade(t, s, 3998, api.ErrQuota)
	}
	expectAll(t, s)
	expectWords(t, s, 0)
	expect(t, "Audit", s.Audit(), api.OK)
}

func TestLastGenerationOne(t *testing.T) {
	s := empty(t, 64, 2, 1)
	expectMake(t, s, 60, 1+gen1)
	for range 5 { // refusals for want of words use up no slot
		expectNotMade(t, s, 60, api.ErrQuota)
	}
	expectDrop(t, s, 1+gen1)
	expectMake(t, s, 60, 2+gen1)
	expectDrop(t, s, 2+gen1)
	expectNotMade(t, s, 60, api.ErrFull)
}

func TestLastGenerationGreatest(t *testing.T) {
	last := api.Handle(api.MaxGen)
	s := storeOf(t, api.Raw{Quota: 64, Most: 1, Last: api.MaxGen, Slots: []api.Slot{{Gen: api.MaxGen - 1}}})
	expectMake(t, s, 3, 1+last*gen1)
	fill(t, s, 1+last*gen1, 5)
	expectRecord(t, s, 1+last*gen1, 5, 6, 7)
	expect(t, "Audit", s.Audit(), api.OK)
	expectDrop(t, s, 1+last*gen1)
	expectNotMade(t, s, 3, api.ErrFull)
}

func TestDropOnce(t *testing.T) {
	s := empty(t, 6400, 10, 9)
	for _, n := range []int{0, 1, 5, 26, 27, 61, 3998} {
		h := made(t, s, n)
		expectDrop(t, s, h)
		expectFails(t, s, h, api.ErrStale)
		expectAll(t, s)
		expectWords(t, s, 0)
		expect(t, "Audit", s.Audit(), api.OK)
	}
}

func TestHandlesThatAreNotLive(t *testing.T) {
	s := empty(t, 640, 3, 9)
	a, b := made(t, s, 2), made(t, s, 5)
	other := empty(t, 640, 10, 9)
	for range 4 {
		made(t, other, 2)
	}
	stale := append(slices.Clone(oddHandles), 4+gen1, 3+gen1, 1+2*gen1, a|1<<40, b+1<<31)
	expectDrop(t, s, a)
	stale = append(stale, a, other.All()[2], other.All()[3])
	was := s.Raw()
	for _, h := range stale {
		expectFails(t, s, h, api.ErrStale)
	}
	expectRaw(t, s, was)
	expectMake(t, s, 2, 1+2*gen1)
	expectFails(t, s, a, api.ErrStale)
	expectAll(t, s, 1+2*gen1, b)
}

// A new record's words are 0, wherever a dropped one's were.
func TestMakeWhereOthersWere(t *testing.T) {
	for _, n := range []int{0, 1, 2, 3, 4, 5, 7, 11, 12, 17, 18, 26, 27, 60, 61, 130} {
		s := empty(t, 640, 10, 9)
		made(t, s, n)
		h, c := made(t, s, n), made(t, s, n)
		kept := fill(t, s, c, 1<<50)
		fill(t, s, h, 1<<60)
		expectDrop(t, s, h)
		again := made(t, s, n)
		expectAll(t, s, 1+gen1, again, c)
		expectRecord(t, s, again, make([]uint64, n)...)
		expectRecord(t, s, c, kept...)
	}
}

// The same of records of other lengths of one class, and of one that was slid away.
func TestMakeWhereLongerOnesWere(t *testing.T) {
	s := empty(t, 640, 10, 9)
	a, b, c := made(t, s, 26), made(t, s, 26), made(t, s, 26)
	fill(t, s, a, 1)
	fill(t, s, b, 1000)
	kept := fill(t, s, c, 2000)
	expectDrop(t, s, a)
	expectRecord(t, s, made(t, s, 18), make([]uint64, 18)...)
	expectDrop(t, s, b)
	expectSlide(t, s, c, true)
	expectRecord(t, s, c, kept...)
	expectRecord(t, s, made(t, s, 26), make([]uint64, 26)...)
	expectRecord(t, s, c, kept...)
}

// P6.3

func TestGetPut(t *testing.T) {
	for _, n := range []int{1, 2, 5, 26, 27, 60, 61, 3998} {
		s := empty(t, 64*63, 3, 9)
		h := made(t, s, n)
		for _, k := range []int{0, n - 1} {
			for _, w := range []uint64{1, 7, 1 << 32, 1 << 63, math.MaxUint64, 0, uint64(k) + 5} {
				expect(t, "Put", s.Put(h, k, w), api.OK)
				if got, e := s.Get(h, k); got != w || e != api.OK {
					t.Errorf("Get of %d words at %d: %d, %d; want %d", n, k, got, e, w)
				}
			}
		}
		expectRecord(t, s, h, fill(t, s, h, 1<<33)...)
		expect(t, "Audit", s.Audit(), api.OK)
	}
}

func TestPlacesThatMayNotBe(t *testing.T) {
	for _, n := range []int{0, 1, 3, 4, 26, 27, 61, 3998} {
		s := empty(t, 64*64, 3, 9)
		h := made(t, s, n)
		fill(t, s, h, 9)
		was := s.Raw()
		for _, k := range []int{-1, -2, -3, -64, n, n + 1, n + 2, n + 64, 1 << 20, 1 << 32, math.MinInt, math.MaxInt, math.MaxInt - 1} {
			if w, e := s.Get(h, k); w != 0 || e != api.ErrArg {
				t.Errorf("Get of %d words at %d: %d, %d", n, k, w, e)
			}
			expect(t, "Put", s.Put(h, k, 5), api.ErrArg)
		}
		expectRaw(t, s, was)
	}
}

// P6.4

func TestSlideOfSmall(t *testing.T) {
	s := empty(t, 640, 10, 9)
	a, b, c := made(t, s, 2), made(t, s, 2), made(t, s, 2)
	row := fill(t, s, c, 70)
	expectSlide(t, s, c, false)
	expectDrop(t, s, b)
	expectSlide(t, s, a, false)
	expectSlide(t, s, c, true)
	expectSlide(t, s, c, false)
	expectRecord(t, s, c, row...)
	expectDrop(t, s, a)
	expectSlide(t, s, c, true)
	expectRecord(t, s, c, row...)
	expectAll(t, s, c)
	expect(t, "Put", s.Put(c, 0, 1), api.OK)
	expectRecord(t, s, c, 1, 71)
	expect(t, "Audit", s.Audit(), api.OK)
}

func TestSlideToAnotherPage(t *testing.T) {
	for c, size := range wantSizes {
		s := empty(t, 640, 100, 9)
		var hs []api.Handle
		for range wantSlots[c] + 1 {
			hs = append(hs, made(t, s, size-2))
		}
		last := hs[wantSlots[c]]
		row := fill(t, s, last, 40)
		expectSlide(t, s, last, false)
		expectDrop(t, s, hs[wantSlots[c]-1])
		expectWords(t, s, 128)
		expectSlide(t, s, last, true)
		expectWords(t, s, 64)
		expectRecord(t, s, last, row...)
		expect(t, "Audit", s.Audit(), api.OK)
		expectDrop(t, s, last)
		expectFails(t, s, last, api.ErrStale)
	}
}

func TestSlideOfLarge(t *testing.T) {
	s := empty(t, 640, 10, 9)
	a, b, c := made(t, s, 30), made(t, s, 130), made(t, s, 300)
	rowB, rowC := fill(t, s, b, 100), fill(t, s, c, 500)
	expectSlide(t, s, b, false)
	expectSlide(t, s, c, false)
	expectDrop(t, s, a)
	expectSlide(t, s, c, false) // a page alone is too little
	expectSlide(t, s, b, true)  // over pages of its own
	expectSlide(t, s, c, true)
	expectRecord(t, s, b, rowB...)
	expectRecord(t, s, c, rowC...)
	expectAll(t, s, b, c)
	expectWords(t, s, 64*8)
	expect(t, "Audit", s.Audit(), api.OK)
	for _, h := range []api.Handle{b, c} {
		expectSlide(t, s, h, false)
	}
}

// The quota is used up: to slide needs no page beside.
func TestSlideAtQuota(t *testing.T) {
	s := empty(t, 64*4, 10, 9)
	a, b := made(t, s, 60), made(t, s, 188)
	row := fill(t, s, b, 3)
	expectDrop(t, s, a)
	c := made(t, s, 26)
	expectNotMade(t, s, 27, api.ErrQuota)
	expectSlide(t, s, b, false)
	expectDrop(t, s, c)
	expectSlide(t, s, b, true)
	expectRecord(t, s, b, row...)
	expectMake(t, s, 60, 1+3*gen1)
	expectAll(t, s, b, 1+3*gen1)
}
