package blob

import (
	"math"
	"slices"
	"strings"
	"testing"

	"loft/api"
	"loft/class"
	"loft/store"
)

// gen1 is what the first generation adds to a slot's number.
const gen1 = api.Handle(1) << 32

// oddHandles are handles of no record: of slot 0, of generation 0, of slots that none may have.
var oddHandles = []api.Handle{0, 1, 2, 65536, 65537, 1<<32 - 1, 1 << 32, 2 << 32, 1<<32 + 65537, 1<<33 - 1, 1<<32 + 1<<31, 1 << 63, 1<<64 - 1<<32, math.MaxUint64}

// tooLong are lengths of texts that there may not be.
var tooLong = []int{1001, 1002, 1007, 1008, 1009, 1024, 2000, 31968, 31969, 1 << 16, 1<<16 + 3, 1 << 20}

// noStores are stores that are not there, or that nobody made.
func noStores() []*store.Store {
	refused, _ := store.New(-1, 1, 1)
	form, _ := store.Of(api.Raw{Quota: 64, Most: 1, Last: 1, Pages: []api.Page{{}}})
	return []*store.Store{nil, {}, refused, form}
}

func empty(t *testing.T, quota, slots int, last uint32) *store.Store {
	t.Helper()
	s, e := store.New(quota, slots, last)
	if s == nil || e != api.OK {
		t.Fatalf("a store of %d words, %d slots: %v, %d", quota, slots, s, e)
	}
	return s
}

// storeOf makes a store of a raw.
func storeOf(t *testing.T, r api.Raw) *store.Store {
	t.Helper()
	s, e := store.Of(r)
	if s == nil || e != api.OK {
		t.Fatalf("a store of a raw: %v, %d", s, e)
	}
	return s
}

// show tells a text by its beginning alone.
func show(x string) string {
	return x[:min(len(x), 12)]
}

func expect(t *testing.T, what string, got, want api.Errno) {
	t.Helper()
	if got != want {
		t.Errorf("%s: %d, want %d", what, got, want)
	}
}

// put makes a blob.
func put(t *testing.T, s *store.Store, x string) api.Handle {
	t.Helper()
	h, e := Put(s, x)
	if h == 0 || e != api.OK {
		t.Fatalf("Put of %d bytes %q: %x, %d", len(x), show(x), h, e)
	}
	return h
}

// record makes one of words, by the store alone.
func record(t *testing.T, s *store.Store, words ...uint64) api.Handle {
	t.Helper()
	h, e := s.Make(len(words))
	if h == 0 || e != api.OK {
		t.Fatalf("Make(%d): %x, %d", len(words), h, e)
	}
	for k, w := range words {
		expect(t, "Put of a word", s.Put(h, k, w), api.OK)
	}
	return h
}

func expectGet(t *testing.T, s *store.Store, h api.Handle, want string) {
	t.Helper()
	if x, e := Get(s, h); x != want || e != api.OK {
		t.Errorf("Get(%x): %d bytes %q, %d; want %d bytes %q", h, len(x), show(x), e, len(want), show(want))
	}
}

// expectRefused holds that Get and Drop of a handle are refused, and that this leaves all as it was.
func expectRefused(t *testing.T, s *store.Store, h api.Handle, want api.Errno) {
	t.Helper()
	was := s.Raw()
	if x, e := Get(s, h); x != "" || e != want {
		t.Errorf("Get(%x): %d bytes %q, %d; want the error %d", h, len(x), show(x), e, want)
	}
	if e := Drop(s, h); e != want {
		t.Errorf("Drop(%x): %d, want %d", h, e, want)
	}
	expectRaw(t, s, was)
}

// expectNotPut also holds that a refusal leaves all as it was.
func expectNotPut(t *testing.T, s *store.Store, x string, want api.Errno) {
	t.Helper()
	was := s.Raw()
	if h, e := Put(s, x); h != 0 || e != want {
		t.Errorf("Put of %d bytes %q: %x, %d; want the error %d", len(x), show(x), h, e, want)
	}
	expectRaw(t, s, was)
}

// sameRaw tells whether two stores are the same to the last word.
func sameRaw(a, b api.Raw) bool {
	return a.Quota == b.Quota && a.Most == b.Most && a.Last == b.Last && slices.Equal(a.Pages, b.Pages) && slices.Equal(a.Slots, b.Slots)
}

func expectRaw(t *testing.T, s *store.Store, want api.Raw) {
	t.Helper()
	if !sameRaw(s.Raw(), want) {
		t.Errorf("the store is another one: %d records, %d words", len(s.All()), s.Words())
	}
}

// expectRecord holds the length and all words of a record.
func expectRecord(t *testing.T, s *store.Store, h api.Handle, words ...uint64) {
	t.Helper()
	if n, e := s.Len(h); n != len(words) || e != api.OK {
		t.Errorf("the record %x has %d words, %d; want %d", h, n, e, len(words))
	}
	for k, want := range words {
		if w, e := s.Get(h, k); w != want || e != api.OK {
			t.Errorf("the word %d of %x: %x, %d; want %x", k, h, w, e, want)
			return
		}
	}
}

// P9.1, P9.2: the chapter's examples.
func TestExamples(t *testing.T) {
	s := empty(t, 640, 9, 9)
	h := put(t, s, "abc")
	expectRecord(t, s, h, 3, 0x6162630000000000)
	expectGet(t, s, h, "abc")
	expectRefused(t, s, record(t, s, 1, 1), api.ErrForm)
	if a, b := Cost(0), Cost(8); a != 3 || b != 4 {
		t.Error("Cost of 0 and 8:", a, b)
	}
}

// P9.1: what Put makes is a record of the text's words, and else the store is as it was: just as if it had been made word by word.
func TestPutIsMadeOfTheTextsWords(t *testing.T) {
	s, twin := empty(t, 1<<14, 300, 9), empty(t, 1<<14, 300, 9)
	for _, n := range edges() {
		for _, x := range textsOf(n) {
			h := put(t, s, x)
			if want := record(t, twin, plainWords(x)...); h != want {
				t.Fatalf("Put of %d bytes tells %x, want %x", n, h, want)
			}
			expectRecord(t, s, h, plainWords(x)...)
			expectGet(t, s, h, x)
			if !sameRaw(s.Raw(), twin.Raw()) {
				t.Fatalf("Put of %d bytes %q makes another store than its words do", n, show(x))
			}
		}
		expect(t, "Audit", s.Audit(), api.OK)
	}
}

// P9.1: texts of every length, with bytes of 0 and of 255 alone, too.
func TestEveryLength(t *testing.T) {
	s := empty(t, 640, 9, api.MaxGen)
	for n := range 1001 {
		for _, x := range textsOf(n) {
			h := put(t, s, x)
			expectGet(t, s, h, x)
			expectGet(t, s, h, x) // to get one does not use it up
			expect(t, "Drop", Drop(s, h), api.OK)
			expectRefused(t, s, h, api.ErrStale)
			if len(s.All()) != 0 || s.Words() != 0 {
				t.Fatalf("Drop of a text of %d bytes leaves %d records, %d words", n, len(s.All()), s.Words())
			}
		}
	}
	if slots := len(s.Raw().Slots); slots != 1 {
		t.Error(slots, "slots were used by one blob at a time")
	}
}

// P9.1: every byte at every place of a word.
func TestEveryByte(t *testing.T) {
	s := empty(t, 640, 9, api.MaxGen)
	for b := range 256 {
		for _, n := range []int{1, 7, 8, 9} {
			for k := range n {
				x := strings.Repeat("\x00", k) + string([]byte{byte(b)}) + strings.Repeat("\xff", n-1-k)
				h := put(t, s, x)
				expectGet(t, s, h, x)
				expect(t, "Drop", Drop(s, h), api.OK)
			}
		}
	}
}

// P9.1: a text that there is already is a blob of its own.
func TestSameTextTwice(t *testing.T) {
	for _, x := range []string{"", "abc", strings.Repeat("\xff", 1000)} {
		s := empty(t, 640, 9, 9)
		a, b := put(t, s, x), put(t, s, x)
		if a == b {
			t.Fatalf("both of %d bytes are %x", len(x), a)
		}
		expect(t, "Drop", Drop(s, a), api.OK)
		expectRefused(t, s, a, api.ErrStale)
		expectGet(t, s, b, x)
	}
}

// P9.1: a blob is any record whose words are a text's, whoever made it.
func TestRecordsMadeByHand(t *testing.T) {
	s := empty(t, 640, 9, api.MaxGen)
	for n := range 1001 {
		for _, x := range textsOf(n) {
			h := record(t, s, plainWords(x)...)
			expectGet(t, s, h, x)
			expect(t, "Drop", Drop(s, h), api.OK)
			expectRefused(t, s, h, api.ErrStale)
		}
	}
}

// P9.1: what Get and Drop tell hangs on the words that there are now.
func TestWordsThatChange(t *testing.T) {
	s := empty(t, 640, 9, 9)
	h, other := put(t, s, "abc"), put(t, s, "other")
	expect(t, "Put of a word", s.Put(h, 1, 0x7879000000000000), api.OK)
	expectGet(t, s, h, "xy\x00")
	expect(t, "Put of a word", s.Put(h, 0, 2), api.OK)
	expectGet(t, s, h, "xy")
	expect(t, "Put of a word", s.Put(h, 0, 1), api.OK)
	expectRefused(t, s, h, api.ErrForm)
	expect(t, "Put of a word", s.Put(h, 0, 8), api.OK)
	expectGet(t, s, h, "xy\x00\x00\x00\x00\x00\x00")
	expect(t, "Put of a word", s.Put(h, 0, 9), api.OK)
	expectRefused(t, s, h, api.ErrForm)
	expectGet(t, s, other, "other")
	expect(t, "Put of a word", s.Put(h, 0, 3), api.OK)
	expect(t, "Drop", Drop(s, h), api.OK)
	expectGet(t, s, other, "other")
}

// P9.1: records whose words are no text's: those of a text, with a word too many or too few, of another length, or with something behind the bytes. Drop leaves them.
func TestNoBlobs(t *testing.T) {
	s := empty(t, 1<<14, 9, api.MaxGen)
	for _, n := range edges() {
		for _, x := range []string{strings.Repeat("\x00", n), strings.Repeat("\xff", n)} {
			for _, words := range spoilt(x) {
				h := record(t, s, words...)
				expectRefused(t, s, h, api.ErrForm)
				expectRecord(t, s, h, words...)
				expect(t, "the store's Drop", s.Drop(h), api.OK)
			}
		}
	}
}

// P9.1: records of words that are all the same, of every sort of length; of one word 0 it is the empty text.
func TestRecordsOfOneWordRepeated(t *testing.T) {
	s := empty(t, 1<<14, 9, api.MaxGen)
	for _, n := range []int{0, 1, 2, 3, 26, 27, 125, 126, 127, 128, 1000, 1001, 3997, 3998} {
		for _, w := range []uint64{0, 1, 8, 9, 1000, 1001, 1 << 32, 1<<32 + 8, 1 << 63, math.MaxUint64} {
			words := slices.Repeat([]uint64{w}, n)
			h := record(t, s, words...)
			if x, isText := plainOf(words); isText {
				expectGet(t, s, h, x)
			} else {
				expectRefused(t, s, h, api.ErrForm)
			}
			expectRecord(t, s, h, words...)
			expect(t, "the store's Drop", s.Drop(h), api.OK)
		}
	}
}

// P9.1: ErrNil goes ahead of all that can be wrong beside it.
func TestNoStore(t *testing.T) {
	for k, s := range noStores() {
		for _, x := range []string{"", "abc", strings.Repeat("a", 1000), strings.Repeat("a", 1001), strings.Repeat("a", 1<<20)} {
			if h, e := Put(s, x); h != 0 || e != api.ErrNil {
				t.Errorf("store %d: Put of %d bytes: %x, %d", k, len(x), h, e)
			}
		}
		for _, h := range append(oddHandles, 1+gen1) {
			if x, e := Get(s, h); x != "" || e != api.ErrNil {
				t.Errorf("store %d: Get(%x): %q, %d", k, h, x, e)
			}
			expect(t, "Drop", Drop(s, h), api.ErrNil)
		}
	}
}

// P9.1: handles of nothing, in stores without records, with some, and behind these.
func TestStaleHandles(t *testing.T) {
	s := empty(t, 640, 9, 9)
	for _, h := range append(oddHandles, 1+gen1) {
		expectRefused(t, s, h, api.ErrStale)
	}
	a, b := put(t, s, "abc"), put(t, s, "de")
	for _, h := range append(oddHandles, 3+gen1, a+gen1, b+2*gen1, b-gen1) {
		expectRefused(t, s, h, api.ErrStale)
	}
	expect(t, "Drop", Drop(s, a), api.OK)
	expectRefused(t, s, a, api.ErrStale)
	again := put(t, s, "fgh") // the same slot, under another name
	expectRefused(t, s, a, api.ErrStale)
	expectGet(t, s, again, "fgh")
	expectGet(t, s, b, "de")
	expect(t, "the store's Drop", s.Drop(b), api.OK)
	expectRefused(t, s, b, api.ErrStale)
	if c := put(t, empty(t, 640, 9, 9), "abc"); c != a { // names are a store's own
		t.Errorf("the first blob is %x, want %x", c, a)
	}
}

// P9.1: ErrStale goes ahead of ErrForm: a record that was no blob is none any more, and what is in its slot now does not count.
func TestStaleAheadOfForm(t *testing.T) {
	s := empty(t, 640, 9, 9)
	h := record(t, s, 1, 1)
	expectRefused(t, s, h, api.ErrForm)
	expect(t, "the store's Drop", s.Drop(h), api.OK)
	expectRefused(t, s, h, api.ErrStale)
	now := record(t, s, 2, 2)
	expectRefused(t, s, h, api.ErrStale)
	expectRefused(t, s, now, api.ErrForm)
}

// P9.1: texts that are too long, in a store with room.
func TestTooLong(t *testing.T) {
	s := empty(t, 1<<18, 9, 9)
	put(t, s, "abc")
	for _, n := range tooLong {
		for _, b := range []string{"\x00", "a", "\xff"} {
			expectNotPut(t, s, strings.Repeat(b, n), api.ErrLong)
		}
	}
	if h := put(t, s, "de"); h != 2+gen1 {
		t.Errorf("behind refusals a Put tells %x", h)
	}
}

// P9.1: ErrQuota, where neither a page nor a place of the same sort is left; where such a place is, a text still goes.
func TestQuotaIsFull(t *testing.T) {
	s := empty(t, 64, 90, 9)
	for range 20 { // places of 3 words on a page
		put(t, s, "")
		expectNotPut(t, s, "a", api.ErrQuota)
		expectNotPut(t, s, strings.Repeat("a", 1000), api.ErrQuota)
	}
	expectNotPut(t, s, "", api.ErrQuota)
	expect(t, "Drop", Drop(s, 7+gen1), api.OK)
	expectNotPut(t, s, "a", api.ErrQuota)
	expectGet(t, s, put(t, s, ""), "")
	for _, h := range s.All() {
		expect(t, "Drop", Drop(s, h), api.OK)
	}
	expectNotPut(t, s, strings.Repeat("a", 1000), api.ErrQuota) // it takes three pages
	expectGet(t, s, put(t, s, "a"), "a")
	expectNotPut(t, empty(t, 0, 9, 9), "", api.ErrQuota)
	expectNotPut(t, empty(t, 128, 9, 9), strings.Repeat("a", 1000), api.ErrQuota)
	put(t, empty(t, 192, 9, 9), strings.Repeat("a", 1000))
}

// P9.1: ErrFull, where no slot is left: each is open, or had its last generation.
func TestSlotsAreFull(t *testing.T) {
	s := empty(t, 6400, 2, 2)
	a, b := put(t, s, "abc"), record(t, s, 1, 1)
	for _, x := range []string{"", "abc", strings.Repeat("a", 100), strings.Repeat("a", 1000)} {
		expectNotPut(t, s, x, api.ErrFull)
	}
	expect(t, "Drop", Drop(s, b), api.ErrForm) // which frees no slot
	expectNotPut(t, s, "", api.ErrFull)
	expect(t, "Drop", Drop(s, a), api.OK)
	a = put(t, s, "de")
	if a != 1+2*gen1 {
		t.Errorf("the second blob of the slot 1 is %x", a)
	}
	expectNotPut(t, s, "", api.ErrFull)
	expect(t, "Drop", Drop(s, a), api.OK)
	expectNotPut(t, s, "", api.ErrFull)
	expectNotPut(t, s, strings.Repeat("a", 1000), api.ErrFull)
	expectRecord(t, s, b, 1, 1)
}

// P9.1: the order of the errors, where two or three of them meet.
func TestOrderOfErrors(t *testing.T) {
	long, text := strings.Repeat("a", 1001), strings.Repeat("a", 1000)
	noWords := empty(t, 0, 9, 9)
	expectNotPut(t, noWords, long, api.ErrLong)
	expectNotPut(t, noWords, text, api.ErrQuota)

	noSlots := empty(t, 6400, 1, 9)
	put(t, noSlots, "abc")
	expectNotPut(t, noSlots, long, api.ErrLong)
	expectNotPut(t, noSlots, text, api.ErrFull)

	neither := empty(t, 64, 1, 9)
	put(t, neither, "abc")
	expectNotPut(t, neither, long, api.ErrLong)
	expectNotPut(t, neither, text, api.ErrQuota)
	expectNotPut(t, neither, "", api.ErrQuota)   // no page is left for places of 3 words
	expectNotPut(t, neither, "abc", api.ErrFull) // a place of 4 words is
}

// P9.2: the numbers, written out, and those of no text.
func TestCost(t *testing.T) {
	for n, want := range map[int]int{0: 3, 1: 4, 7: 4, 8: 4, 9: 5, 16: 5, 17: 6, 992: 127, 993: 128, 999: 128, 1000: 128} {
		if got := Cost(n); got != want {
			t.Error("Cost of", n, "is", got, "not", want)
		}
	}
	for n := range 1001 {
		if got, want := Cost(n), 2+len(plainWords(strings.Repeat("a", n))); got != want {
			t.Error("Cost of", n, "is", got, "not", want)
		}
	}
	for _, n := range append(tooLong,
		1<<31-1, 1<<31, 1<<32, 1<<32+3, 1<<62, math.MaxInt-8, math.MaxInt-7, math.MaxInt-1, math.MaxInt,
		-1, -2, -7, -8, -9, -1000, -1001, -1<<31, -1<<32, -1<<32+3, -1<<62, math.MinInt+7, math.MinInt+1, math.MinInt,
	) {
		if got := Cost(n); got != 0 {
			t.Error("Cost of", n, "is", got)
		}
	}
}

// P9.2: the block of each text has so many words: its record has 2 less, and it has a place for so many, alone in its store.
func TestBlocksAreAsCostSays(t *testing.T) {
	s := empty(t, 640, 9, api.MaxGen)
	for n := range 1001 {
		h := put(t, s, strings.Repeat("a", n))
		if words, e := s.Len(h); words+2 != Cost(n) || e != api.OK {
			t.Errorf("the record of %d bytes has %d words, %d; Cost is %d", n, words, e, Cost(n))
		}
		pages, spare := 1, 0
		k, small, e := class.Of(Cost(n))
		if slots, _ := class.Slots(k); small {
			spare = slots - 1
		} else {
			pages, _ = class.Pages(Cost(n))
		}
		if s.Words() != 64*pages || small && s.Spare(k) != spare || e != api.OK {
			t.Errorf("a text of %d bytes has %d words granted, %d places left; want %d, %d", n, s.Words(), s.Spare(k), 64*pages, spare)
		}
		expect(t, "Drop", Drop(s, h), api.OK)
	}
}
