package node

import (
	"maps"
	"slices"
	"testing"

	"loft/api"
	"loft/compact"
	"loft/store"
)

// numbered is a node whose words can be told apart, allTop one whose words are as great as they go.
var (
	numbered = api.Node{Key: 0x1_0000_0001, Val: 0x2_0000_0002, Left: 0x3_0000_0003, Right: 0x4_0000_0004, Mark: 0x5_0000_0005, Size: 0x6_0000_0006}
	allTop   = api.Node{Key: top, Val: top, Left: top, Right: top, Mark: top, Size: top}
)

// plainWords are a node's words, one behind the other.
func plainWords(n api.Node) []uint64 {
	row := []uint64{uint64(n.Key)}
	row = append(row, uint64(n.Val))
	row = append(row, uint64(n.Left))
	row = append(row, uint64(n.Right))
	row = append(row, n.Mark)
	return append(row, n.Size)
}

// plainNode is plainWords, back.
func plainNode(words []uint64) api.Node {
	var n api.Node
	n.Key, n.Val = api.Handle(words[0]), api.Handle(words[1])
	n.Left, n.Right = api.Handle(words[2]), api.Handle(words[3])
	n.Mark, n.Size = words[4], words[5]
	return n
}

// someNodes are nodes of which one word alone is 0, 1, any bit, or as great as it goes, the others 0, or as great; and thrown ones.
func someNodes() []api.Node {
	odd := []uint64{0, 1, 2, 6, top - 1, top}
	for bit := range 64 {
		odd = append(odd, 1<<bit)
	}
	nodes := []api.Node{{}, numbered, allTop}
	for k := range 6 {
		for _, w := range odd {
			words := make([]uint64, 6)
			words[k] = w
			nodes = append(nodes, plainNode(words))
		}
		for _, w := range []uint64{0, 1, top - 1} {
			words := slices.Repeat([]uint64{top}, 6)
			words[k] = w
			nodes = append(nodes, plainNode(words))
		}
	}
	r := thrower(10)
	for range 60 {
		nodes = append(nodes, r.node())
	}
	return nodes
}

// thrower throws numbers, the same ones in every run.
type thrower uint64

func (r *thrower) next() uint64 {
	x := uint64(*r)
	x ^= x << 13
	x ^= x >> 7
	x ^= x << 17
	*r = thrower(x)
	return x
}

// below throws a number from 0 to n - 1.
func (r *thrower) below(n int) int {
	return int(r.next() >> 11 % uint64(n))
}

// node throws one of words that are small, great, 0 or any.
func (r *thrower) node() api.Node {
	words := make([]uint64, 6)
	for k := range words {
		switch r.below(5) {
		case 0:
			words[k] = uint64(r.below(9))
		case 1:
			words[k] = top - uint64(r.below(2))
		case 2, 3:
			words[k] = r.next()
		}
	}
	return plainNode(words)
}

// length throws one of a record that is no node.
func (r *thrower) length() int {
	n := r.below(14)
	if r.below(5) == 0 {
		n = r.below(150)
	}
	if n == 6 {
		n = 5 + 2*r.below(2)
	}
	return n
}

// world is a store with the nodes and the other records that must be in it.
type world struct {
	s       *store.Store
	nodes   map[api.Handle]api.Node
	records map[api.Handle][]uint64
	gone    []api.Handle
	slid    int
	refused map[api.Errno]int
}

func newWorld(t *testing.T, quota, slots int, last uint32) *world {
	t.Helper()
	return &world{s: empty(t, quota, slots, last), nodes: map[api.Handle]api.Node{}, records: map[api.Handle][]uint64{}, refused: map[api.Errno]int{}}
}

// some throws one of the handles of a map (0: there is none).
func some[V any](r *thrower, m map[api.Handle]V) api.Handle {
	all := slices.Sorted(maps.Keys(m))
	if len(all) == 0 {
		return 0
	}
	return all[r.below(len(all))]
}

// make makes a node. The store, with a record of six words, tells what must come of it.
func (w *world) make(t *testing.T, n api.Node) {
	t.Helper()
	was := w.s.Raw()
	wantH, wantE := storeOf(t, was).Make(6)
	h, e := Make(w.s, n)
	if h != wantH || e != wantE {
		t.Fatalf("Make: %x, %d; want %x, %d", h, e, wantH, wantE)
	}
	if e == api.OK {
		w.nodes[h] = n
		return
	}
	w.refused[e]++
	expectRaw(t, w.s, was)
}

// put lets a node be something else.
func (w *world) put(t *testing.T, h api.Handle, n api.Node) {
	t.Helper()
	if h != 0 {
		expect(t, "Put", Put(w.s, h, n), api.OK)
		w.nodes[h] = n
	}
}

// drop drops a node.
func (w *world) drop(t *testing.T, h api.Handle) {
	t.Helper()
	if h != 0 {
		expect(t, "Drop", Drop(w.s, h), api.OK)
		delete(w.nodes, h)
		w.gone = append(w.gone, h)
	}
}

// makeRecord makes a record that is no node, if there is room.
func (w *world) makeRecord(t *testing.T, r *thrower) {
	t.Helper()
	words := make([]uint64, r.length())
	h, e := w.s.Make(len(words))
	if e != api.OK {
		return
	}
	for k := range words {
		words[k] = r.next()
		expect(t, "the store's Put", w.s.Put(h, k, words[k]), api.OK)
	}
	w.records[h] = words
}

// dropRecord drops a record that is no node, which only the store itself does.
func (w *world) dropRecord(t *testing.T, h api.Handle) {
	t.Helper()
	if h != 0 {
		expectRefused(t, w.s, h, api.ErrForm)
		expect(t, "the store's Drop", w.s.Drop(h), api.OK)
		delete(w.records, h)
		w.gone = append(w.gone, h)
	}
}

// slide lets a record go lower.
func (w *world) slide(t *testing.T, h api.Handle) {
	t.Helper()
	if h == 0 {
		return
	}
	moved, e := w.s.Slide(h)
	expect(t, "Slide", e, api.OK)
	if moved {
		w.slid++
	}
}

// compact does a few steps.
func (w *world) compact(t *testing.T, steps int) {
	t.Helper()
	c, e := compact.New(w.s)
	expect(t, "New of a compactor", e, api.OK)
	n, _, e := c.Run(steps)
	expect(t, "Run", e, api.OK)
	w.slid += n
}

// play does one thrown thing.
func (w *world) play(t *testing.T, r *thrower) {
	t.Helper()
	switch r.below(13) {
	case 0, 1, 2, 3:
		w.make(t, r.node())
	case 4, 5:
		w.put(t, some(r, w.nodes), r.node())
	case 6, 7:
		w.drop(t, some(r, w.nodes))
	case 8:
		w.makeRecord(t, r)
	case 9:
		w.dropRecord(t, some(r, w.records))
	case 10:
		w.slide(t, some(r, w.nodes))
	case 11:
		w.slide(t, some(r, w.records))
		w.compact(t, r.below(4))
	case 12:
		w.s = storeOf(t, w.s.Raw())
	}
}

// expectAll holds that just these nodes and records are there, each with its own words.
func (w *world) expectAll(t *testing.T) {
	t.Helper()
	for h, n := range w.nodes {
		expectNode(t, w.s, h, n)
	}
	for h, words := range w.records {
		expectRecord(t, w.s, h, words...)
	}
	if got := len(w.s.All()); got != len(w.nodes)+len(w.records) {
		t.Errorf("%d records, want %d nodes and %d others", got, len(w.nodes), len(w.records))
	}
	expect(t, "Audit", w.s.Audit(), api.OK)
}

// shapes are stores with room, with few words, and with few handles.
var shapes = []struct {
	quota, slots int
	last         uint32
}{{20000, 1000, api.MaxGen}, {640, 200, api.MaxGen}, {320, 40, api.MaxGen}, {20000, 12, api.MaxGen}, {20000, 40, 5}, {640, 6, 150}}

// P10.2: every node is what it was put as, whatever slides, or is made, put or dropped beside it, and none that was dropped is.
func TestNodesStay(t *testing.T) {
	slid := 0
	refused := map[api.Errno]int{}
	for seed, c := range shapes {
		w := newWorld(t, c.quota, c.slots, c.last)
		r := thrower(seed + 1000)
		for step := range 1200 {
			w.play(t, &r)
			w.expectAll(t)
			if t.Failed() {
				t.Fatalf("New(%d, %d, %d), step %d", c.quota, c.slots, c.last, step)
			}
		}
		for _, h := range w.gone {
			expectRefused(t, w.s, h, api.ErrStale)
		}
		slid += w.slid
		for e, n := range w.refused {
			refused[e] += n
		}
	}
	if slid < 300 || refused[api.ErrQuota] < 100 || refused[api.ErrFull] < 100 {
		t.Errorf("these stores try too little: %d went elsewhere, refusals %v", slid, refused)
	}
}

// P10.2: a node of each sort goes lower, to the place of one that was dropped, and can be put there.
func TestNodeOfEachSortSlides(t *testing.T) {
	s := empty(t, 640, 9, api.MaxGen)
	for _, n := range someNodes() {
		ahead, h, behind := made(t, s, allTop), made(t, s, n), made(t, s, numbered)
		expect(t, "Drop", Drop(s, ahead), api.OK)
		if moved, e := s.Slide(h); !moved || e != api.OK {
			t.Fatalf("%x does not go lower: %t, %d", h, moved, e)
		}
		expectNode(t, s, h, n)
		expectRefused(t, s, ahead, api.ErrStale)
		again := made(t, s, allTop)
		expectNode(t, s, h, n)
		expect(t, "Put", Put(s, h, numbered), api.OK)
		expect(t, "Put", Put(s, behind, n), api.OK)
		expectNode(t, s, h, numbered)
		expectNode(t, s, again, allTop)
		expectNode(t, s, behind, n)
		for _, h := range []api.Handle{h, behind, again} {
			expect(t, "Drop", Drop(s, h), api.OK)
		}
	}
}

// P1 of the whole: the same calls have the same answers.
func TestSameCallsSameAnswers(t *testing.T) {
	row := func() ([]api.Handle, api.Raw) {
		w := newWorld(t, 1920, 30, 99)
		r := thrower(77)
		var told []api.Handle
		for range 1000 {
			w.play(t, &r)
			told = append(told, slices.Sorted(maps.Keys(w.nodes))...)
		}
		return told, w.s.Raw()
	}
	told, raw := row()
	toldAgain, rawAgain := row()
	if !slices.Equal(told, toldAgain) || !sameRaw(raw, rawAgain) {
		t.Error("the same calls have other answers")
	}
}

// P1 and P3 of the whole: a refused call, at any time, leaves the store going on as one that was not asked.
func TestRefusalsLeaveNoTrace(t *testing.T) {
	played := func(ask bool) api.Raw {
		w := newWorld(t, 640, 20, 200)
		r, other := thrower(5), thrower(6)
		for range 800 {
			w.play(t, &r)
			if ask {
				w.refuse(t, &other)
			}
		}
		return w.s.Raw()
	}
	if !sameRaw(played(true), played(false)) {
		t.Error("refusals leave a trace")
	}
}

// refuse asks for what is no node.
func (w *world) refuse(t *testing.T, r *thrower) {
	t.Helper()
	if h := some(r, w.records); h != 0 {
		expectRefused(t, w.s, h, api.ErrForm)
	}
	if len(w.gone) > 0 {
		expectRefused(t, w.s, w.gone[r.below(len(w.gone))], api.ErrStale)
	}
	if _, e := storeOf(t, w.s.Raw()).Make(6); e != api.OK {
		expectNotMade(t, w.s, e)
	}
	expectRefused(t, w.s, oddHandles[r.below(len(oddHandles))], api.ErrStale)
}
