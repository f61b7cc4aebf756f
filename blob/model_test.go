package blob

import (
	"encoding/binary"
	"maps"
	"math"
	"slices"
	"strings"
	"testing"

	"loft/api"
	"loft/compact"
	"loft/store"
)

// plainWords are a text's words: its bytes are filled up with 0 to whole words, and each of these is read at once.
func plainWords(x string) []uint64 {
	row := []uint64{uint64(len(x))}
	full := x + strings.Repeat("\x00", (8-len(x)%8)%8)
	for len(full) > 0 {
		row = append(row, binary.BigEndian.Uint64([]byte(full[:8])))
		full = full[8:]
	}
	return row
}

// plainOf is plainWords, back: words are a text's where that text's words are these.
func plainOf(l []uint64) (string, bool) {
	if len(l) == 0 || l[0] > 1000 {
		return "", false
	}
	var all []byte
	for _, w := range l[1:] {
		all = binary.BigEndian.AppendUint64(all, w)
	}
	if uint64(len(all)) < l[0] {
		return "", false
	}
	x := string(all[:l[0]])
	return x, slices.Equal(plainWords(x), l)
}

// edges are the lengths at which a word, a place or all of them are full or begun, and those beside.
func edges() []int {
	return []int{0, 1, 2, 6, 7, 8, 9, 10, 15, 16, 17, 63, 64, 65, 200, 201, 504, 505, 991, 992, 993, 999, 1000}
}

// textsOf are texts of n bytes: of 0 alone, of 255 alone, of rising bytes, whose places can be told apart, and thrown ones.
func textsOf(n int) []string {
	rising := make([]byte, n)
	for k := range rising {
		rising[k] = byte(k%251 + 1)
	}
	r := thrower(n + 1)
	return []string{strings.Repeat("\x00", n), strings.Repeat("\xff", n), string(rising), r.text(n)}
}

// spoilt are rows of words that are no text's, but nearly that one's.
func spoilt(x string) [][]uint64 {
	l := plainWords(x)
	last := len(l) - 1
	rows := [][]uint64{l[:last], append(slices.Clone(l), 0), append(slices.Clone(l), 1), append(slices.Clone(l), make([]uint64, 1000)...)}
	for _, head := range []uint64{uint64(len(x)) + 8, uint64(len(x)) - 8, 1001, 1 << 31, 1<<32 + uint64(len(x)), 1<<63 + uint64(len(x)), math.MaxUint64} {
		other := slices.Clone(l)
		other[0] = head
		rows = append(rows, other)
	}
	for bit := range 8*8*last - 8*len(x) { // behind the bytes
		other := slices.Clone(l)
		other[last] |= 1 << bit
		rows = append(rows, other)
	}
	return rows
}

// thrower throws numbers, the same ones in every run.
type thrower uint64

func (r *thrower) next() uint64 {
	x := uint64(*r)
	x ^= x << 13
	x ^= x >> 7
	x ^= x << 17
	*r = thrower(x)
	return x
}

// below throws a number from 0 to n - 1.
func (r *thrower) below(n int) int {
	return int(r.next() >> 11 % uint64(n))
}

// text throws one of n bytes.
func (r *thrower) text(n int) string {
	b := make([]byte, n)
	for k := range b {
		b[k] = byte(r.next() >> 24)
	}
	return string(b)
}

// anyText throws a text of any length, short ones and those at edges more often, and some that are too long.
func (r *thrower) anyText() string {
	switch r.below(8) {
	case 0, 1, 2:
		return r.text(r.below(20))
	case 3, 4:
		return r.text(edges()[r.below(len(edges()))])
	case 5:
		return r.text(1001 + r.below(50))
	default:
		return r.text(r.below(300))
	}
}

// world is a store with the texts and the other records that must be in it.
type world struct {
	s       *store.Store
	texts   map[api.Handle]string
	records map[api.Handle][]uint64
	gone    []api.Handle
	slid    int
	refused map[api.Errno]int
}

func newWorld(t *testing.T, quota, slots int, last uint32) *world {
	t.Helper()
	return &world{s: empty(t, quota, slots, last), texts: map[api.Handle]string{}, records: map[api.Handle][]uint64{}, refused: map[api.Errno]int{}}
}

// some throws one of the handles of a map (0: there is none).
func some[V any](r *thrower, m map[api.Handle]V) api.Handle {
	all := slices.Sorted(maps.Keys(m))
	if len(all) == 0 {
		return 0
	}
	return all[r.below(len(all))]
}

// put puts a text. The store, with the same words in a record, tells what must come of it.
func (w *world) put(t *testing.T, x string) {
	t.Helper()
	was := w.s.Raw()
	var wantH api.Handle
	wantE := api.ErrLong
	if len(x) <= 1000 {
		wantH, wantE = storeOf(t, was).Make(len(plainWords(x)))
	}
	h, e := Put(w.s, x)
	if h != wantH || e != wantE {
		t.Fatalf("Put of %d bytes: %x, %d; want %x, %d", len(x), h, e, wantH, wantE)
	}
	if e == api.OK {
		w.texts[h] = x
		return
	}
	w.refused[e]++
	expectRaw(t, w.s, was)
}

// make makes a record that is no blob, if there is room.
func (w *world) make(t *testing.T, r *thrower) {
	t.Helper()
	n := r.below(6)
	if r.below(4) == 0 {
		n = r.below(150)
	}
	h, e := w.s.Make(n)
	if e != api.OK {
		return
	}
	words := make([]uint64, n)
	for k := range words {
		words[k] = r.next()
		expect(t, "Put of a word", w.s.Put(h, k, words[k]), api.OK)
	}
	w.records[h] = words
}

// drop drops a blob.
func (w *world) drop(t *testing.T, h api.Handle) {
	t.Helper()
	if h != 0 {
		expect(t, "Drop", Drop(w.s, h), api.OK)
		delete(w.texts, h)
		w.gone = append(w.gone, h)
	}
}

// dropRecord drops a record that is no blob, which only the store itself does.
func (w *world) dropRecord(t *testing.T, h api.Handle) {
	t.Helper()
	if h != 0 {
		expectRefused(t, w.s, h, api.ErrForm)
		expect(t, "the store's Drop", w.s.Drop(h), api.OK)
		delete(w.records, h)
		w.gone = append(w.gone, h)
	}
}

// slide lets a record go lower.
func (w *world) slide(t *testing.T, h api.Handle) {
	t.Helper()
	if h == 0 {
		return
	}
	moved, e := w.s.Slide(h)
	expect(t, "Slide", e, api.OK)
	if moved {
		w.slid++
	}
}

// compact does a few steps.
func (w *world) compact(t *testing.T, steps int) {
	t.Helper()
	c, e := compact.New(w.s)
	expect(t, "New of a compactor", e, api.OK)
	n, _, e := c.Run(steps)
	expect(t, "Run", e, api.OK)
	w.slid += n
}

// play does one thrown thing.
func (w *world) play(t *testing.T, r *thrower) {
	t.Helper()
	switch r.below(12) {
	case 0, 1, 2, 3:
		w.put(t, r.anyText())
	case 4, 5:
		w.drop(t, some(r, w.texts))
	case 6:
		w.make(t, r)
	case 7:
		w.dropRecord(t, some(r, w.records))
	case 8:
		w.slide(t, some(r, w.texts))
	case 9:
		w.slide(t, some(r, w.records))
	case 10:
		w.compact(t, r.below(4))
	case 11:
		w.s = storeOf(t, w.s.Raw())
	}
}

// expectAll holds that just these texts and records are there, each with its own words.
func (w *world) expectAll(t *testing.T) {
	t.Helper()
	for h, x := range w.texts {
		expectGet(t, w.s, h, x)
		expectRecord(t, w.s, h, plainWords(x)...)
	}
	for h, words := range w.records {
		expectRecord(t, w.s, h, words...)
	}
	if got := len(w.s.All()); got != len(w.texts)+len(w.records) {
		t.Errorf("%d records, want %d texts and %d others", got, len(w.texts), len(w.records))
	}
	expect(t, "Audit", w.s.Audit(), api.OK)
}

// shapes are stores with room, with few words, and with few handles.
var shapes = []struct {
	quota, slots int
	last         uint32
}{{20000, 1000, api.MaxGen}, {1280, 200, api.MaxGen}, {320, 40, api.MaxGen}, {20000, 12, api.MaxGen}, {20000, 40, 3}, {640, 6, 90}}

// P9.3: every text is got, whatever slides, is put or dropped beside it, and none that was dropped.
func TestTextsStay(t *testing.T) {
	slid := 0
	refused := map[api.Errno]int{}
	for seed, c := range shapes {
		w := newWorld(t, c.quota, c.slots, c.last)
		r := thrower(seed + 1000)
		for step := range 1200 {
			w.play(t, &r)
			w.expectAll(t)
			if t.Failed() {
				t.Fatalf("New(%d, %d, %d), step %d", c.quota, c.slots, c.last, step)
			}
		}
		for _, h := range w.gone {
			expectRefused(t, w.s, h, api.ErrStale)
		}
		slid += w.slid
		for e, n := range w.refused {
			refused[e] += n
		}
	}
	if slid < 500 || refused[api.ErrLong] < 100 || refused[api.ErrQuota] < 100 || refused[api.ErrFull] < 100 {
		t.Errorf("these stores try too little: %d went elsewhere, refusals %v", slid, refused)
	}
}

// P9.3: one text of each length stays, while texts that were made ahead of it are dropped, so that it goes lower.
func TestTextOfEachLengthSlides(t *testing.T) {
	s := empty(t, 6400, 99, api.MaxGen)
	for n := range 1001 {
		x := textsOf(n)[2]
		other := strings.Repeat("\xff", n)
		ahead, h, behind := put(t, s, other), put(t, s, x), put(t, s, other)
		expect(t, "Drop", Drop(s, ahead), api.OK)
		if moved, e := s.Slide(h); !moved || e != api.OK {
			t.Fatalf("a text of %d bytes does not go lower: %t, %d", n, moved, e)
		}
		expectGet(t, s, h, x)
		expectGet(t, s, behind, other)
		again := put(t, s, "")
		expectGet(t, s, h, x)
		expectGet(t, s, behind, other)
		for _, h := range []api.Handle{h, behind, again} {
			expect(t, "Drop", Drop(s, h), api.OK)
		}
	}
}

// P1 of the whole: the same calls have the same answers.
func TestSameCallsSameAnswers(t *testing.T) {
	row := func() ([]api.Handle, api.Raw) {
		w := newWorld(t, 1920, 30, 99)
		r := thrower(77)
		var told []api.Handle
		for range 1000 {
			w.play(t, &r)
			told = append(told, slices.Sorted(maps.Keys(w.texts))...)
		}
		return told, w.s.Raw()
	}
	told, raw := row()
	toldAgain, rawAgain := row()
	if !slices.Equal(told, toldAgain) || !sameRaw(raw, rawAgain) {
		t.Error("the same calls have other answers")
	}
}
