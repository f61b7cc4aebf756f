package node

import (
	"math"
	"slices"
	"testing"

	"loft/api"
	"loft/class"
	"loft/store"
)

// gen1 is what the first generation adds to a slot's number.
const gen1 = api.Handle(1) << 32

// top is as great as a word goes.
const top = math.MaxUint64

// oddHandles are handles of no record: of slot 0, of generation 0, of slots that none may have.
var oddHandles = []api.Handle{0, 1, 2, 65536, 65537, 1<<32 - 1, 1 << 32, 2 << 32, 1<<32 + 65537, 1<<33 - 1, 1<<32 + 1<<31, 1 << 63, 1<<64 - 1<<32, top}

// otherLengths are lengths of records that are no nodes.
var otherLengths = []int{0, 1, 2, 3, 4, 5, 7, 8, 9, 11, 12, 13, 26, 27, 60, 62, 64, 70, 256, 262, 3992, 3998}

// noStores are stores that are not there, or that nobody made.
func noStores() []*store.Store {
	refused, _ := store.New(-1, 1, 1)
	form, _ := store.Of(api.Raw{Quota: 64, Most: 1, Last: 1, Pages: []api.Page{{}}})
	return []*store.Store{nil, {}, refused, form}
}

func empty(t *testing.T, quota, slots int, last uint32) *store.Store {
	t.Helper()
	s, e := store.New(quota, slots, last)
	if s == nil || e != api.OK {
		t.Fatalf("a store of %d words, %d slots: %v, %d", quota, slots, s, e)
	}
	return s
}

// storeOf makes a store of a raw.
func storeOf(t *testing.T, r api.Raw) *store.Store {
	t.Helper()
	s, e := store.Of(r)
	if s == nil || e != api.OK {
		t.Fatalf("a store of a raw: %v, %d", s, e)
	}
	return s
}

func expect(t *testing.T, what string, got, want api.Errno) {
	t.Helper()
	if got != want {
		t.Errorf("%s: %d, want %d", what, got, want)
	}
}

// made makes a node.
func made(t *testing.T, s *store.Store, n api.Node) api.Handle {
	t.Helper()
	h, e := Make(s, n)
	if h == 0 || e != api.OK {
		t.Fatalf("Make(%x): %x, %d", n, h, e)
	}
	return h
}

// record makes one of words, by the store alone.
func record(t *testing.T, s *store.Store, words ...uint64) api.Handle {
	t.Helper()
	h, e := s.Make(len(words))
	if h == 0 || e != api.OK {
		t.Fatalf("the store's Make(%d): %x, %d", len(words), h, e)
	}
	for k, w := range words {
		expect(t, "the store's Put", s.Put(h, k, w), api.OK)
	}
	return h
}

// rising are n words that can be told apart.
func rising(n int, first uint64) []uint64 {
	row := make([]uint64, n)
	for k := range row {
		row[k] = first + uint64(k)
	}
	return row
}

func expectGet(t *testing.T, s *store.Store, h api.Handle, want api.Node) {
	t.Helper()
	if n, e := Get(s, h); n != want || e != api.OK {
		t.Errorf("Get(%x): %x, %d; want %x", h, n, e, want)
	}
}

// expectNode holds what a node is, and its record's words.
func expectNode(t *testing.T, s *store.Store, h api.Handle, want api.Node) {
	t.Helper()
	expectGet(t, s, h, want)
	expectRecord(t, s, h, plainWords(want)...)
}

// expectRefused holds that Get, Put and Drop of a handle are refused, and that this leaves all as it was.
func expectRefused(t *testing.T, s *store.Store, h api.Handle, want api.Errno) {
	t.Helper()
	was := s.Raw()
	if n, e := Get(s, h); n != (api.Node{}) || e != want {
		t.Errorf("Get(%x): %x, %d; want the error %d", h, n, e, want)
	}
	for _, n := range []api.Node{{}, numbered, allTop} {
		if e := Put(s, h, n); e != want {
			t.Errorf("Put(%x, %x): %d, want %d", h, n, e, want)
		}
	}
	if e := Drop(s, h); e != want {
		t.Errorf("Drop(%x): %d, want %d", h, e, want)
	}
	expectRaw(t, s, was)
}

// expectNotMade also holds that a refusal leaves all as it was.
func expectNotMade(t *testing.T, s *store.Store, want api.Errno) {
	t.Helper()
	was := s.Raw()
	for _, n := range []api.Node{{}, numbered, allTop} {
		if h, e := Make(s, n); h != 0 || e != want {
			t.Errorf("Make(%x): %x, %d; want the error %d", n, h, e, want)
		}
	}
	expectRaw(t, s, was)
}

// sameRaw tells whether two stores are the same to the last word.
func sameRaw(a, b api.Raw) bool {
	return a.Quota == b.Quota && a.Most == b.Most && a.Last == b.Last && slices.Equal(a.Pages, b.Pages) && slices.Equal(a.Slots, b.Slots)
}

func expectRaw(t *testing.T, s *store.Store, want api.Raw) {
	t.Helper()
	if !sameRaw(s.Raw(), want) {
		t.Errorf("the store is another one: %d records, %d words", len(s.All()), s.Words())
	}
}

// expectRecord holds the length and all words of a record.
func expectRecord(t *testing.T, s *store.Store, h api.Handle, words ...uint64) {
	t.Helper()
	if n, e := s.Len(h); n != len(words) || e != api.OK {
		t.Errorf("the record %x has %d words, %d; want %d", h, n, e, len(words))
	}
	for k, want := range words {
		if w, e := s.Get(h, k); w != want || e != api.OK {
			t.Errorf("the word %d of %x: %x, %d; want %x", k, h, w, e, want)
			return
		}
	}
}

// P10.1: the chapter's examples.
func TestExamples(t *testing.T) {
	s := empty(t, 640, 9, 9)
	n := api.Node{Key: 7, Size: 1}
	h := made(t, s, n)
	expectRecord(t, s, h, 7, 0, 0, 0, 0, 1)
	expectGet(t, s, h, n)
	expectRefused(t, s, record(t, s, 7, 0, 0, 0, 0), api.ErrForm)
}

// P10.1: which six words a node has, in which order.
func TestOrderOfWords(t *testing.T) {
	s := empty(t, 640, 9, 9)
	h := made(t, s, api.Node{Key: 1, Val: 2, Left: 3, Right: 4, Mark: 5, Size: 6})
	expectRecord(t, s, h, 1, 2, 3, 4, 5, 6)
	expect(t, "Put", Put(s, h, api.Node{Size: 11, Mark: 12, Right: 13, Left: 14, Val: 15, Key: 16}), api.OK)
	expectRecord(t, s, h, 16, 15, 14, 13, 12, 11)
	expectGet(t, s, record(t, s, 21, 22, 23, 24, 25, 26), api.Node{Key: 21, Val: 22, Left: 23, Right: 24, Mark: 25, Size: 26})
}

// P10.1: nodes of all sorts of words are made and got. Make makes a record of the words, as if it had been made word by word.
func TestMadeAndGot(t *testing.T) {
	s, twin := empty(t, 1<<14, 600, 9), empty(t, 1<<14, 600, 9)
	for _, n := range someNodes() {
		h := made(t, s, n)
		if want := record(t, twin, plainWords(n)...); h != want {
			t.Fatalf("Make(%x): %x, want %x", n, h, want)
		}
		expectNode(t, s, h, n)
		expectNode(t, s, h, n) // to get one does not use it up
		if t.Failed() {
			return
		}
	}
	expectRaw(t, s, twin.Raw())
	expect(t, "Audit", s.Audit(), api.OK)
}

// P10.1: each of these nodes is put over each sort of other one.
func TestPut(t *testing.T) {
	s := empty(t, 640, 9, 9)
	ahead, h, behind := made(t, s, allTop), made(t, s, numbered), made(t, s, allTop)
	for _, n := range someNodes() {
		for _, was := range []api.Node{{}, allTop, numbered, n} {
			expect(t, "Put", Put(s, h, was), api.OK)
			expect(t, "Put", Put(s, h, n), api.OK)
			expectNode(t, s, h, n)
		}
		if t.Failed() {
			return
		}
	}
	expectNode(t, s, ahead, allTop)
	expectNode(t, s, behind, allTop)
	if len(s.All()) != 3 || s.Words() != 64 {
		t.Errorf("Put makes records: %d, in %d words", len(s.All()), s.Words())
	}
	expect(t, "Audit", s.Audit(), api.OK)
}

// P10.1: a node that is dropped is none any more, and its room is free; the others stay.
func TestDrop(t *testing.T) {
	s := empty(t, 640, 9, 9)
	a, b, c := made(t, s, numbered), made(t, s, numbered), made(t, s, allTop)
	expect(t, "Drop", Drop(s, b), api.OK)
	expectRefused(t, s, b, api.ErrStale)
	expectNode(t, s, a, numbered)
	expectNode(t, s, c, allTop)
	if all := s.All(); !slices.Equal(all, []api.Handle{a, c}) {
		t.Errorf("behind Drop there are %x", all)
	}
	expect(t, "Drop", Drop(s, a), api.OK)
	expect(t, "Drop", Drop(s, c), api.OK)
	if len(s.All()) != 0 || s.Words() != 0 {
		t.Errorf("Drop leaves %d records, %d words", len(s.All()), s.Words())
	}
}

// P10.1: a new node of zeros is so, though there were other words in its place.
func TestZerosBehindOtherWords(t *testing.T) {
	s := empty(t, 640, 9, 9)
	for range 9 {
		h := made(t, s, allTop)
		expect(t, "Drop", Drop(s, h), api.OK)
		h = made(t, s, api.Node{})
		expectNode(t, s, h, api.Node{})
		expect(t, "Put", Put(s, h, allTop), api.OK)
		expect(t, "Put", Put(s, h, api.Node{}), api.OK)
		expectNode(t, s, h, api.Node{})
	}
}

// P10.1: what a node names need not be there: nodes may name each other, themselves and nothing, and no call follows them.
func TestNamesAreNotFollowed(t *testing.T) {
	s := empty(t, 640, 9, 9)
	a, b := made(t, s, numbered), made(t, s, numbered)
	self := api.Node{Key: a, Val: a, Left: a, Right: a, Mark: uint64(a), Size: uint64(a)}
	expect(t, "Put", Put(s, a, self), api.OK)
	both := api.Node{Key: a, Val: b, Left: a, Right: b}
	expect(t, "Put", Put(s, b, both), api.OK)
	expectNode(t, s, a, self)
	expect(t, "Drop", Drop(s, a), api.OK)
	expectNode(t, s, b, both)
	odd := api.Node{Key: top, Val: 1, Left: a, Right: 1 << 63, Mark: top, Size: top}
	expectNode(t, s, made(t, s, odd), odd)
	expect(t, "Drop", Drop(s, b), api.OK)
	if len(s.All()) != 1 {
		t.Errorf("%d records are left, want 1", len(s.All()))
	}
}

// P10.1: a node is any record of six words, whoever made it, and what it is hangs on the words that there are now.
func TestRecordsMadeByHand(t *testing.T) {
	s := empty(t, 640, 9, 9)
	h := record(t, s, 0, 0, 0, 0, 0, 0)
	expectGet(t, s, h, api.Node{})
	for k := range 6 {
		words := make([]uint64, 6)
		words[k] = top
		expect(t, "Put", Put(s, h, api.Node{}), api.OK)
		expect(t, "the store's Put", s.Put(h, k, top), api.OK)
		expectGet(t, s, h, plainNode(words))
	}
	expect(t, "Put", Put(s, h, numbered), api.OK)
	expectNode(t, s, h, numbered)
	expect(t, "Drop", Drop(s, h), api.OK)
	expectRefused(t, s, h, api.ErrStale)
	h = made(t, s, numbered)
	expect(t, "the store's Drop", s.Drop(h), api.OK)
	expectRefused(t, s, h, api.ErrStale)
}

// P10.1: records that have not six words. They stay, with all of their words, and so do nodes beside them.
func TestNoNodes(t *testing.T) {
	s := empty(t, 1<<14, 99, 9)
	ahead := made(t, s, numbered)
	for _, n := range otherLengths {
		for _, words := range [][]uint64{make([]uint64, n), rising(n, 1000), slices.Repeat([]uint64{top}, n), slices.Repeat([]uint64{6}, n)} {
			h := record(t, s, words...)
			behind := made(t, s, allTop)
			expectRefused(t, s, h, api.ErrForm)
			expectRecord(t, s, h, words...)
			expectNode(t, s, ahead, numbered)
			expectNode(t, s, behind, allTop)
			expect(t, "the store's Drop", s.Drop(h), api.OK)
			expectRefused(t, s, h, api.ErrStale)
			expect(t, "Drop", Drop(s, behind), api.OK)
		}
		if t.Failed() {
			t.Fatalf("records of %d words", n)
		}
	}
}

// P10.1: ErrNil goes ahead of all that can be wrong beside it.
func TestNoStore(t *testing.T) {
	live := made(t, empty(t, 640, 9, 9), numbered)
	for k, s := range noStores() {
		expectNotMade(t, s, api.ErrNil)
		for _, h := range append(slices.Clone(oddHandles), live) {
			expectRefused(t, s, h, api.ErrNil)
		}
		if t.Failed() {
			t.Fatalf("store %d", k)
		}
	}
}

// P10.1: handles of nothing, in stores without records, with some, and behind these.
func TestStaleHandles(t *testing.T) {
	s := empty(t, 640, 9, 9)
	for _, h := range append(slices.Clone(oddHandles), 1+gen1) {
		expectRefused(t, s, h, api.ErrStale)
	}
	a, b := made(t, s, numbered), made(t, s, allTop)
	for _, h := range append(slices.Clone(oddHandles), 3+gen1, a+gen1, b+2*gen1, b-gen1) {
		expectRefused(t, s, h, api.ErrStale)
	}
	expect(t, "Drop", Drop(s, a), api.OK)
	expectRefused(t, s, a, api.ErrStale)
	again := made(t, s, allTop) // the same slot, under another name
	if again != a+gen1 {
		t.Errorf("the second node of the slot is %x, want %x", again, a+gen1)
	}
	expectRefused(t, s, a, api.ErrStale)
	expectNode(t, s, again, allTop)
	expectNode(t, s, b, allTop)
}

// P10.1: ErrStale goes ahead of ErrForm: a record that was no node is none any more, and what is in its slot now does not count.
func TestStaleAheadOfForm(t *testing.T) {
	for _, n := range otherLengths {
		s := empty(t, 1<<14, 9, 9)
		h := record(t, s, rising(n, 1)...)
		expectRefused(t, s, h, api.ErrForm)
		expect(t, "the store's Drop", s.Drop(h), api.OK)
		expectRefused(t, s, h, api.ErrStale)
		now := record(t, s, rising(n, 2)...)
		expectRefused(t, s, h, api.ErrStale)
		expectRefused(t, s, now, api.ErrForm)
		expect(t, "the store's Drop", s.Drop(now), api.OK)
		node := made(t, s, numbered)
		expectRefused(t, s, h, api.ErrStale)
		expectRefused(t, s, now, api.ErrStale)
		expectNode(t, s, node, numbered)
	}
}

// P10.1: ErrQuota, where neither a page nor a place of a node's sort is left. Nodes that are there go on.
func TestQuotaIsFull(t *testing.T) {
	s := empty(t, 64, 90, 9)
	var all []api.Handle
	for range 6 { // places of 9 words on a page
		all = append(all, made(t, s, numbered))
	}
	expectNotMade(t, s, api.ErrQuota)
	expect(t, "Put", Put(s, all[2], allTop), api.OK)
	expectNode(t, s, all[2], allTop)
	expectRefused(t, s, 7+gen1, api.ErrStale)
	expect(t, "Drop", Drop(s, all[3]), api.OK)
	expectNode(t, s, made(t, s, api.Node{}), api.Node{})
	expectNotMade(t, s, api.ErrQuota)
	expectNotMade(t, empty(t, 0, 9, 9), api.ErrQuota)
	expectNotMade(t, empty(t, 63, 9, 9), api.ErrQuota)
	other := empty(t, 64, 9, 9)
	no := record(t, other, 1, 2, 3, 4) // its place is of another sort, on the only page
	expectNotMade(t, other, api.ErrQuota)
	expectRefused(t, other, no, api.ErrForm)
}

// P10.1: a Make that was refused uses up nothing: the next one tells the handle that it would have told.
func TestMakeBehindRefusals(t *testing.T) {
	s := empty(t, 64, 90, 9)
	for range 6 {
		made(t, s, numbered)
	}
	for range 9 {
		expectNotMade(t, s, api.ErrQuota)
	}
	expect(t, "Drop", Drop(s, 4+gen1), api.OK)
	if h := made(t, s, numbered); h != 4+2*gen1 {
		t.Errorf("behind refusals Make tells %x", h)
	}
}

// P10.1: ErrFull, where no slot is left: each is open, or had its last generation.
func TestSlotsAreFull(t *testing.T) {
	s := empty(t, 6400, 2, 2)
	a, b := made(t, s, numbered), record(t, s, 1, 2, 3, 4, 5)
	expectNotMade(t, s, api.ErrFull)
	expect(t, "Drop", Drop(s, b), api.ErrForm) // which frees no slot
	expectNotMade(t, s, api.ErrFull)
	expect(t, "Put", Put(s, a, allTop), api.OK)
	expectNode(t, s, a, allTop)
	expect(t, "Drop", Drop(s, a), api.OK)
	a = made(t, s, numbered)
	if a != 1+2*gen1 {
		t.Errorf("the second node of the slot 1 is %x", a)
	}
	expectNotMade(t, s, api.ErrFull)
	expect(t, "Drop", Drop(s, a), api.OK)
	expectNotMade(t, s, api.ErrFull)
	expectRecord(t, s, b, 1, 2, 3, 4, 5)
}

// P10.1: ErrQuota goes ahead of ErrFull.
func TestQuotaAheadOfFull(t *testing.T) {
	neither := empty(t, 64, 6, 9)
	for range 6 {
		made(t, neither, numbered)
	}
	expectNotMade(t, neither, api.ErrQuota)
	other := empty(t, 64, 1, 9)
	record(t, other, 1)
	expectNotMade(t, other, api.ErrQuota)
	retired := empty(t, 0, 1, 1)
	expectNotMade(t, retired, api.ErrQuota)
	place := empty(t, 64, 1, 9) // a place for a node is left, but no slot
	made(t, place, numbered)
	expectNotMade(t, place, api.ErrFull)
}

// P10.2: a node's block has 8 words: its handle, how many words the record has, and these.
func TestBlock(t *testing.T) {
	k, small, e := class.Of(8)
	if k != 4 || !small || e != api.OK {
		t.Fatalf("a block of 8 words is of the class %d, %t, %d", k, small, e)
	}
	s := empty(t, 640, 99, 9)
	for n := range 60 {
		h := made(t, s, numbered)
		if pages := n/6 + 1; s.Words() != 64*pages || s.Spare(k) != 6*pages-n-1 {
			t.Fatalf("%d nodes have %d words, %d places left", n+1, s.Words(), s.Spare(k))
		}
		addr := s.Raw().Slots[n].Addr
		block := s.Raw().Pages[addr/64].W[addr%64:][:8]
		if want := append([]uint64{uint64(h), 6}, plainWords(numbered)...); !slices.Equal(block, want) {
			t.Fatalf("the block of %x is %x, want %x", h, block, want)
		}
	}
	expectNotMade(t, s, api.ErrQuota)
}
