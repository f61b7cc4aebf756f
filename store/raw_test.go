package store

import (
	"math"
	"slices"
	"testing"

	"loft/api"
)

// storeOf makes a store of a raw.
func storeOf(t *testing.T, r api.Raw) *Store {
	t.Helper()
	s, e := Of(r)
	if s == nil || e != api.OK {
		t.Fatalf("Of: %v, %d", s, e)
	}
	return s
}

func expectNotOf(t *testing.T, name string, r api.Raw, want api.Errno) {
	t.Helper()
	was := cloned(r)
	if s, e := Of(r); s != nil || e != want {
		t.Errorf("%s: %v, %d; want the error %d", name, s, e, want)
	}
	if !sameRaw(r, was) {
		t.Errorf("%s: a raw that is refused is changed", name)
	}
}

// cloned is a raw that shares no memory with that one.
func cloned(r api.Raw) api.Raw {
	r.Pages, r.Slots = slices.Clone(r.Pages), slices.Clone(r.Slots)
	return r
}

// few is a raw by hand, as the chapters write it: on page 3 two records of class 3 (3 and 4 words), on the pages 5 and 6 one of 100 words, on the last page one without words, and four slots beside: a free one, a retired one.
func few() api.Raw {
	r := api.Raw{Quota: 640, Most: 9, Last: 5}
	r.Pages = []api.Page{{N: 3}, {N: 5}, {N: 6}, {N: api.LastPage}}
	put := func(k, at int, row ...uint64) { copy(r.Pages[k].W[at:], row) }
	put(0, 0, 1+256*3, 0b101)
	put(0, 2, 1+2<<32, 3, 31, 32, 33)
	put(0, 14, 4+1<<32, 4, 41, 42, 43, 44)
	put(1, 0, 2+256*2, 102)
	put(1, 2, 5+5<<32, 100, 51, 52)
	put(2, 0, 1, 1) // words of the record: 60 and 61 of it
	put(3, 0, 1, 1<<30)
	put(3, 62, 6+3<<32, 0)
	r.Slots = []api.Slot{
		{Open: true, Gen: 2, Addr: 3*64 + 2},
		{Gen: 4},
		{Gen: 5},
		{Open: true, Gen: 1, Addr: 3*64 + 14},
		{Open: true, Gen: 5, Addr: 5*64 + 2},
		{Open: true, Gen: 3, Addr: api.LastPage*64 + 62},
	}
	return r
}

// The handles of few's records.
const (
	few1 = 1 + 2*gen1
	few4 = 4 + gen1
	few5 = 5 + 5*gen1
	few6 = 6 + 3*gen1
)

// manyRecords is a raw of so many records without words, in a table of as many slots as there may be.
func manyRecords(n int) api.Raw {
	r := api.Raw{Quota: 1 << 18, Most: 65536, Last: 2}
	for k := range n {
		if k%31 == 0 {
			r.Pages = append(r.Pages, api.Page{N: k / 31})
			r.Pages[k/31].W[0] = 1
		}
		p := &r.Pages[k/31]
		p.W[1] |= 1 << (k % 31)
		p.W[2+2*(k%31)] = uint64(k) + 1 + 1<<32
		r.Slots = append(r.Slots, api.Slot{Open: true, Gen: 1, Addr: k/31*64 + 2 + 2*(k%31)})
	}
	return r
}

// P6.5

func TestRawOfNoRecords(t *testing.T) {
	s := empty(t, 640, 10, 9)
	want := api.Raw{Quota: 640, Most: 10, Last: 9}
	expectRaw(t, s, want)
	x := storeOf(t, s.Raw())
	expectRaw(t, x, want)
	expectMake(t, x, 2, 1+gen1)
	for _, r := range []api.Raw{
		{Quota: 0, Most: 1, Last: 1}, {Quota: 1 << 18, Most: 65536, Last: api.MaxGen},
		{Quota: 640, Most: 10, Last: 9, Pages: []api.Page{}, Slots: []api.Slot{}},
		{Quota: 640, Most: 2, Last: 9, Slots: []api.Slot{{Gen: 1}, {Gen: 9}}},
	} {
		s := storeOf(t, r)
		expectRaw(t, s, r)
		expectAll(t, s)
		expectWords(t, s, 0)
		expect(t, "Audit", s.Audit(), api.OK)
	}
}

// All words of a raw, as the chapters say.
func TestRawWordByWord(t *testing.T) {
	s := empty(t, 640, 10, 9)
	a, b, c := made(t, s, 3), made(t, s, 61), made(t, s, 4)
	fill(t, s, a, 11)
	fill(t, s, b, 100)
	fill(t, s, c, 31)
	want := api.Raw{Quota: 640, Most: 10, Last: 9, Pages: []api.Page{{N: 0}, {N: 1}, {N: 2}}}
	copy(want.Pages[0].W[:], []uint64{1 + 256*3, 0b11, 1 + 1<<32, 3, 11, 12, 13, 0, 3 + 1<<32, 4, 31, 32, 33, 34})
	copy(want.Pages[1].W[:], []uint64{2 + 512, 63, 2 + 1<<32, 61})
	for k := range 60 {
		want.Pages[1].W[4+k] = uint64(100 + k)
	}
	want.Pages[2].W[0] = 160
	want.Slots = []api.Slot{{Open: true, Gen: 1, Addr: 2}, {Open: true, Gen: 1, Addr: 66}, {Open: true, Gen: 1, Addr: 8}}
	expectRaw(t, s, want)
	expectDrop(t, s, a, b)
	want.Pages = want.Pages[:1]
	want.Pages[0].W[1] = 0b10
	copy(want.Pages[0].W[2:], make([]uint64, 6)) // a place that is left has nothing any more
	want.Slots[0], want.Slots[1] = api.Slot{Gen: 1}, api.Slot{Gen: 1}
	expectRaw(t, s, want)
	expectMake(t, s, 0, 1+2*gen1)
	want.Pages = append(want.Pages, api.Page{N: 1})
	copy(want.Pages[1].W[:], []uint64{1, 1, 1 + 2<<32, 0})
	want.Slots[0] = api.Slot{Open: true, Gen: 2, Addr: 66}
	expectRaw(t, s, want)
}

func TestOfByHand(t *testing.T) {
	s := storeOf(t, few())
	expectRaw(t, s, few())
	expectAll(t, s, few1, few4, few5, few6)
	expectWords(t, s, 256)
	expectSpare(t, s, 30, 0, 0, 8, 0, 0, 0, 0)
	expect(t, "Audit", s.Audit(), api.OK)
	expectRecord(t, s, few1, 31, 32, 33)
	expectRecord(t, s, few4, 41, 42, 43, 44)
	row := make([]uint64, 100)
	row[0], row[1], row[60], row[61] = 51, 52, 1, 1
	expectRecord(t, s, few5, row...)
	expectRecord(t, s, few6)
	for _, h := range []api.Handle{1 + gen1, 2 + 4*gen1, 3 + 5*gen1, 4 + 2*gen1, 7 + gen1} {
		expectFails(t, s, h, api.ErrStale)
	}
	expectMake(t, s, 3, 2+5*gen1) // between both others
	expectAll(t, s, few1, 2+5*gen1, few4, few5, few6)
	expectMake(t, s, 70, 7+gen1) // slot 3 is retired
	expectAll(t, s, 7+gen1, few1, 2+5*gen1, few4, few5, few6)
	expectSlide(t, s, few6, true)
	expectSlide(t, s, few6, false)
	expectSlide(t, s, few5, true) // page 4 is free, and page 5 is its own
	expectSlide(t, s, few5, false)
	expectDrop(t, s, few1, 2+5*gen1, few4)
	expectSlide(t, s, few5, true)
	expectRecord(t, s, few5, row...)
	expect(t, "Audit", s.Audit(), api.OK)
}

func TestOfArguments(t *testing.T) {
	wrong := func(r *api.Raw) { r.Pages[1].N = -1; r.Slots[0] = api.Slot{} }
	for _, edit := range []func(*api.Raw){
		func(r *api.Raw) { r.Quota = -1 },
		func(r *api.Raw) { r.Quota = 1<<18 + 1 },
		func(r *api.Raw) { r.Quota = math.MinInt },
		func(r *api.Raw) { r.Quota = math.MaxInt },
		func(r *api.Raw) { r.Most = 0 },
		func(r *api.Raw) { r.Most = -1 },
		func(r *api.Raw) { r.Most = 65537 },
		func(r *api.Raw) { r.Most = math.MinInt },
		func(r *api.Raw) { r.Most = math.MaxInt },
		func(r *api.Raw) { r.Last = 0 },
	} {
		r := few()
		edit(&r)
		expectNotOf(t, "numbers alone", r, api.ErrArg)
		wrong(&r)
		expectNotOf(t, "numbers ahead of pages and slots", r, api.ErrArg)
		r.Pages, r.Slots = nil, nil
		expectNotOf(t, "numbers of no pages", r, api.ErrArg)
	}
	expectNotOf(t, "nothing", api.Raw{}, api.ErrArg)
}

func TestOfPageNumbers(t *testing.T) {
	for name, ns := range map[string][4]int{
		"twice":                    {3, 3, 5, 6},
		"twice at the end":         {3, 5, 6, 6},
		"falling":                  {5, 3, 6, 7},
		"falling at the end":       {3, 5, 7, 6},
		"below 0":                  {-1, 5, 6, 7},
		"the least":                {math.MinInt, 5, 6, 7},
		"below 0 amid":             {3, -5, 6, 7},
		"one beyond the last":      {3, 5, 6, api.LastPage + 1},
		"the greatest":             {3, 5, 6, math.MaxInt},
		"one beyond, all of them":  {api.LastPage - 2, api.LastPage - 1, api.LastPage, api.LastPage + 1},
		"a great one ahead of all": {1 << 32, 5, 6, 7},
	} {
		r := few()
		for k, n := range ns {
			r.Pages[k].N = n
		}
		expectNotOf(t, name, r, api.ErrForm)
		r.Quota = 0 // page numbers go ahead of the quota
		expectNotOf(t, name+", without a quota", r, api.ErrForm)
		r.Slots[0] = api.Slot{}
		expectNotOf(t, name+", and slots", r, api.ErrForm)
	}
}

func TestOfQuota(t *testing.T) {
	for _, quota := range []int{256, 257, 319, 1 << 18} {
		r := few()
		r.Quota = quota
		expectRaw(t, storeOf(t, r), r)
	}
	for _, quota := range []int{0, 1, 64, 192, 255} {
		r := few()
		r.Quota = quota
		expectNotOf(t, "the quota", r, api.ErrQuota)
		r.Slots[0] = api.Slot{}
		expectNotOf(t, "the quota ahead of slots", r, api.ErrQuota)
		r.Pages[0].W[0] = 0
		expectNotOf(t, "the quota ahead of words", r, api.ErrQuota)
	}
	s := storeOf(t, api.Raw{Quota: 256, Most: 9, Last: 5, Pages: few().Pages, Slots: few().Slots})
	expectNotMade(t, s, 1, api.ErrQuota)
	many := api.Raw{Quota: 1 << 18, Most: 1, Last: 1, Pages: make([]api.Page, 4097)}
	for k := range many.Pages {
		many.Pages[k].N = k
	}
	expectNotOf(t, "more pages than there may be at once", many, api.ErrQuota)
}

// wrongSlots are slots that may not be: of layer 5, or of pages as these are.
var wrongSlots = map[string]func(*api.Raw){
	"a slot of generation 0":             func(r *api.Raw) { r.Slots[1].Gen = 0 },
	"an open one of generation 0":        func(r *api.Raw) { r.Slots[0].Gen = 0 },
	"a generation above the last one":    func(r *api.Raw) { r.Slots[1].Gen = 6 },
	"an open one above the last one":     func(r *api.Raw) { r.Slots[4].Gen = 6 },
	"an address below 0":                 func(r *api.Raw) { r.Slots[0].Addr = -1 },
	"an address of one that is not open": func(r *api.Raw) { r.Slots[1].Addr = 1 },
	"more slots than there may be":       func(r *api.Raw) { r.Most = 5 },
	"a slot more, none of these":         func(r *api.Raw) { r.Slots = append(r.Slots, api.Slot{}) },
	"no slots":                           func(r *api.Raw) { r.Slots = nil },
	"a slot less":                        func(r *api.Raw) { r.Slots = r.Slots[:5] },
	"a live handle without a block":      func(r *api.Raw) { r.Slots[1] = api.Slot{Open: true, Gen: 4, Addr: 2} },
	"one of a free place":                func(r *api.Raw) { r.Slots[1] = api.Slot{Open: true, Gen: 4, Addr: 3*64 + 8} },
	"one amid a block":                   func(r *api.Raw) { r.Slots[1] = api.Slot{Open: true, Gen: 4, Addr: 3*64 + 4} },
	"two of one block":                   func(r *api.Raw) { r.Slots[1] = api.Slot{Open: true, Gen: 4, Addr: 3*64 + 2} },
	"a live handle of a great address":   func(r *api.Raw) { r.Slots[1] = api.Slot{Open: true, Gen: 4, Addr: math.MaxInt} },
	"a live handle of the address 0":     func(r *api.Raw) { r.Slots[1] = api.Slot{Open: true, Gen: 4} },
	"a block without a live handle":      func(r *api.Raw) { r.Slots[0] = api.Slot{Gen: 2} },
	"a block of another generation":      func(r *api.Raw) { r.Slots[0].Gen = 3 },
	"a block's handle is elsewhere":      func(r *api.Raw) { r.Slots[0].Addr = 3*64 + 8 },
	"a block's handle is a word off":     func(r *api.Raw) { r.Slots[0].Addr++ },
	"blocks of each other's handles":     func(r *api.Raw) { r.Slots[0].Addr, r.Slots[3].Addr = r.Slots[3].Addr, r.Slots[0].Addr },
	"a block's handle at another's":      func(r *api.Raw) { r.Slots[0].Addr = r.Slots[3].Addr },
	"a large one's handle is elsewhere":  func(r *api.Raw) { r.Slots[4].Addr = 6*64 + 2 },
	"a handle gone, another one for it": func(r *api.Raw) {
		r.Slots[0] = api.Slot{Gen: 2}
		r.Slots[1] = api.Slot{Open: true, Gen: 4, Addr: 3*64 + 2}
	},
	"a handle of another slot for a block": func(r *api.Raw) { r.Slots[5] = api.Slot{Gen: 3}; r.Slots[1] = api.Slot{Open: true, Gen: 4, Addr: 8} },
}

// wrongWords are words of pages that may not be: heads, names, lengths.
var wrongWords = map[string]func(*api.Raw){
	"a page without a head":                      func(r *api.Raw) { r.Pages[0].W[0] = 0 },
	"a page of another class":                    func(r *api.Raw) { r.Pages[0].W[0] = 1 + 256*4 },
	"a page of no class":                         func(r *api.Raw) { r.Pages[0].W[0] = 1 + 256*8 },
	"a page without blocks":                      func(r *api.Raw) { r.Pages[3].W[1] = 0 },
	"a slot that no page has":                    func(r *api.Raw) { r.Pages[0].W[1] |= 1 << 10 },
	"a block more":                               func(r *api.Raw) { r.Pages[0].W[1] = 0b111 },
	"a block less":                               func(r *api.Raw) { r.Pages[0].W[1] = 0b001 },
	"a block elsewhere":                          func(r *api.Raw) { r.Pages[0].W[1] = 0b110 },
	"a page of a large one less":                 func(r *api.Raw) { r.Pages = slices.Delete(r.Pages, 2, 3) },
	"a page more":                                func(r *api.Raw) { r.Pages = slices.Insert(r.Pages, 3, api.Page{N: 7}) },
	"a large one of a word more":                 func(r *api.Raw) { r.Pages[1].W[1] = 103 },
	"a large one of a word less":                 func(r *api.Raw) { r.Pages[1].W[1] = 101 },
	"a large one of a page":                      func(r *api.Raw) { r.Pages[1].W[0] = 2 + 256 },
	"the first word 0":                           func(r *api.Raw) { r.Pages[0].W[2] = 0 },
	"the first word of another generation":       func(r *api.Raw) { r.Pages[0].W[2] = 1 + 3<<32 },
	"the first word of an elder generation":      func(r *api.Raw) { r.Pages[0].W[2] = 1 + 1<<32 },
	"the first word of another slot":             func(r *api.Raw) { r.Pages[0].W[2] = 2 + 2<<32 },
	"the first word without a generation":        func(r *api.Raw) { r.Pages[0].W[2] = 1 },
	"the first word of another block":            func(r *api.Raw) { r.Pages[0].W[2] = 4 + 1<<32 },
	"first words of each other":                  func(r *api.Raw) { w := &r.Pages[0].W; w[2], w[14] = w[14], w[2] },
	"all bits in the first word":                 func(r *api.Raw) { r.Pages[3].W[62] = math.MaxUint64 },
	"a large one's first word":                   func(r *api.Raw) { r.Pages[1].W[2]++ },
	"a length of a lesser class":                 func(r *api.Raw) { r.Pages[0].W[3] = 2 },
	"no length in a place of six":                func(r *api.Raw) { r.Pages[0].W[3] = 0 },
	"a length of a greater class":                func(r *api.Raw) { r.Pages[0].W[3] = 5 },
	"a length of a large one in a small place":   func(r *api.Raw) { r.Pages[0].W[3] = 100 },
	"a length below 0":                           func(r *api.Raw) { r.Pages[0].W[3] = math.MaxUint64 },
	"a length of 64 bits":                        func(r *api.Raw) { r.Pages[0].W[3] = 3 + 1<<63 },
	"a length beyond 32 bits":                    func(r *api.Raw) { r.Pages[0].W[3] = 3 + 1<<32 },
	"the greatest length":                        func(r *api.Raw) { r.Pages[0].W[3] = 3998 },
	"a length of a block too great":              func(r *api.Raw) { r.Pages[0].W[3] = 3999 },
	"a length that wraps round to the block's":   func(r *api.Raw) { r.Pages[3].W[63] = math.MaxUint64 - 1 },
	"a length that wraps round to a word":        func(r *api.Raw) { r.Pages[3].W[63] = math.MaxUint64 },
	"a length where none fits":                   func(r *api.Raw) { r.Pages[3].W[63] = 1 },
	"a large one's length of a word less":        func(r *api.Raw) { r.Pages[1].W[3] = 99 },
	"a large one's length of a word more":        func(r *api.Raw) { r.Pages[1].W[3] = 101 },
	"a large one's length as its block's":        func(r *api.Raw) { r.Pages[1].W[3] = 102 },
	"a small length in a large one":              func(r *api.Raw) { r.Pages[1].W[3] = 3 },
	"a large one's length of a block too great":  func(r *api.Raw) { r.Pages[1].W[3] = 3999 },
	"a large one's length beyond 32 bits":        func(r *api.Raw) { r.Pages[1].W[3] = 100 + 1<<32 },
	"pages changed for each other":               func(r *api.Raw) { r.Pages[0].W, r.Pages[3].W = r.Pages[3].W, r.Pages[0].W },
	"a page elsewhere":                           func(r *api.Raw) { r.Pages[0].N = 2 },
	"no pages":                                   func(r *api.Raw) { r.Pages = nil },
	"the page of the last record less":           func(r *api.Raw) { r.Pages = r.Pages[:3] },
	"two lengths, right in all but their places": func(r *api.Raw) { r.Pages[0].W[15], r.Pages[3].W[63] = 0, 4 },
}

func TestOfRefusesWrongRaws(t *testing.T) {
	for _, rows := range []map[string]func(*api.Raw){wrongSlots, wrongWords} {
		for name, edit := range rows {
			r := few()
			edit(&r)
			expectNotOf(t, name, r, api.ErrForm)
		}
	}
}

// The edges of what is taken.
func TestOfTakesRightRaws(t *testing.T) {
	for name, edit := range map[string]func(*api.Raw){
		"the other length of the class":     func(r *api.Raw) { r.Pages[0].W[3], r.Pages[0].W[15] = 4, 3 },
		"any words of records":              func(r *api.Raw) { r.Pages[0].W[4], r.Pages[2].W[0] = math.MaxUint64, 77 },
		"any words of free places":          func(r *api.Raw) { r.Pages[0].W[8], r.Pages[3].W[2], r.Pages[0].W[62] = 9, math.MaxUint64, 5 },
		"any word behind a record":          func(r *api.Raw) { r.Pages[0].W[7], r.Pages[2].W[63] = 9, 9 },
		"as many slots as there may be":     func(r *api.Raw) { r.Most = 6 },
		"a last generation that there is":   func(r *api.Raw) { r.Slots[1].Gen = 5 },
		"a greater last generation":         func(r *api.Raw) { r.Last = api.MaxGen },
		"slots behind, free and retired":    func(r *api.Raw) { r.Slots = append(r.Slots, api.Slot{Gen: 1}, api.Slot{Gen: 5}) },
		"records of other slots, as it was": func(r *api.Raw) { r.Slots[1].Gen, r.Slots[2].Gen = 1, 1 },
	} {
		r := few()
		edit(&r)
		s, e := Of(r)
		if s == nil || e != api.OK {
			t.Errorf("%s: %v, %d", name, s, e)
			continue
		}
		expectRaw(t, s, r)
		expectAll(t, s, few1, few4, few5, few6)
		expect(t, name, s.Audit(), api.OK)
	}
}

// A block of each length, by hand: only the lengths of its place are taken.
func TestOfLengthsOfPlaces(t *testing.T) {
	for c, size := range wantSizes {
		least := 0
		if c > 0 {
			least = wantSizes[c-1] + 1 - 2
		}
		for n := range 70 {
			r := api.Raw{Quota: 64, Most: 1, Last: 1, Pages: make([]api.Page, 1), Slots: []api.Slot{{Open: true, Gen: 1, Addr: 2}}}
			copy(r.Pages[0].W[:], []uint64{1 + 256*uint64(c), 1, 1 + 1<<32, uint64(n)})
			want := api.ErrForm
			if n >= least && n <= size-2 {
				want = api.OK
			}
			if _, e := Of(r); e != want {
				t.Errorf("%d words in a place of %d: %d, want %d", n, size, e, want)
			}
		}
	}
}

// What was right is refused as soon as any bit of a head, of a name or of a length that has another place is turned.
func TestOfOfTurnedBits(t *testing.T) {
	for _, c := range []struct{ page, word int }{{0, 0}, {0, 1}, {0, 2}, {0, 14}, {1, 0}, {1, 1}, {1, 2}, {1, 3}, {3, 0}, {3, 1}, {3, 62}, {3, 63}} {
		for bit := range 64 {
			r := few()
			r.Pages[c.page].W[c.word] ^= 1 << bit
			expectNotOf(t, "a bit", r, api.ErrForm)
		}
	}
}

func TestRawIsNewMemory(t *testing.T) {
	s := storeOf(t, few())
	a, b := s.Raw(), s.Raw()
	a.Pages[0].W[4], a.Pages[1].N, a.Slots[0], a.Slots[1].Gen = 99, 9, api.Slot{}, 1
	_, _ = append(a.Pages, api.Page{N: 3}), append(a.Slots, api.Slot{Gen: 2})
	if !sameRaw(b, few()) {
		t.Error("answers of Raw share memory")
	}
	expectRaw(t, s, few())
	expectRecord(t, s, few1, 31, 32, 33)
	expect(t, "Put", s.Put(few1, 0, 5), api.OK)
	expectDrop(t, s, few4, few5)
	made(t, s, 30)
	if !sameRaw(b, few()) {
		t.Error("a store changes an answer of Raw")
	}
}

func TestOfKeepsNoMemory(t *testing.T) {
	r := few()
	r.Pages = append(r.Pages, api.Page{N: 77})[:4]
	r.Slots = append(r.Slots, api.Slot{Gen: 77}, api.Slot{Gen: 78})[:6]
	pages, slots := slices.Clone(r.Pages[:5]), slices.Clone(r.Slots[:8])
	s, other := storeOf(t, r), storeOf(t, r)
	expect(t, "Put", s.Put(few1, 0, 5), api.OK)
	expectDrop(t, s, few4, few6)
	for range 4 {
		made(t, s, 1)
	}
	if !slices.Equal(r.Pages[:5], pages) || !slices.Equal(r.Slots[:8], slots) {
		t.Error("a store changes the raw that it was made of, or what is behind it")
	}
	expectRaw(t, other, few()) // two stores of one raw are apart
	for k := range r.Pages {
		r.Pages[k] = api.Page{N: k}
	}
	clear(r.Slots)
	expectRaw(t, other, few())
	expectRecord(t, s, few1, 5, 32, 33)
}

// P6.1, Audit of what nobody can do by the store's own calls.
func TestAuditTellsWhatIsWrong(t *testing.T) {
	fresh := func() *Store { return storeOf(t, few()) }
	for name, spoil := range map[string]func(*Store){
		"a head":                 func(s *Store) { s.arena.Write(3*64, 0) },
		"a set of slots":         func(s *Store) { s.arena.Write(3*64+1, 0b111) },
		"a page more":            func(s *Store) { s.arena.Claim(9) },
		"a page less":            func(s *Store) { s.arena.Release(6, 1) },
		"a name":                 func(s *Store) { s.arena.Write(3*64+2, 2+2<<32) },
		"a length":               func(s *Store) { s.arena.Write(3*64+3, 5) },
		"a large one's length":   func(s *Store) { s.arena.Write(5*64+3, 99) },
		"an address":             func(s *Store) { s.table.Move(few1, 3*64+8) },
		"a handle less":          func(s *Store) { s.table.Close(few1) },
		"a handle more":          func(s *Store) { s.table.Open(3*64 + 2) },
		"a block more":           func(s *Store) { s.heap.Alloc(3) },
		"a block less":           func(s *Store) { s.heap.Free(3*64 + 2) },
		"a block elsewhere":      func(s *Store) { s.heap.Slide(api.LastPage*64 + 62) },
		"a block less, and more": func(s *Store) { s.heap.Free(3*64 + 2); s.heap.Alloc(4) },
	} {
		s := fresh()
		expect(t, name, s.Audit(), api.OK)
		spoil(s)
		expect(t, name, s.Audit(), api.ErrForm)
	}
	s := fresh()
	s.arena.Write(3*64+5, 7) // a word of a record
	s.arena.Write(6*64, 7)   // the same, where a head might be
	expect(t, "Audit of any words", s.Audit(), api.OK)
}

func TestGreatestRaw(t *testing.T) {
	r := manyRecords(65536)
	s := storeOf(t, r)
	expectRaw(t, s, r)
	if all := s.All(); len(all) != 65536 || all[65535] != 65536+gen1 {
		t.Errorf("%d records", len(all))
	}
	r.Slots = append(r.Slots, api.Slot{Gen: 1})
	expectNotOf(t, "a slot too many", r, api.ErrForm)
}
