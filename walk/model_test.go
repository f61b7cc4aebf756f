package walk

import (
	"slices"
	"testing"

	"loft/api"
	"loft/compact"
	"loft/node"
	"loft/store"
)

// world is a store with the trees and the other records that must be in it.
type world struct {
	s       *store.Store
	trees   []tree
	records map[api.Handle][]uint64
	gone    []api.Handle
	counts  counts
}

// counts are how often things happened, so that a test can tell that it tried enough.
type counts struct{ planted, freed, slid, right, wrong int }

func (c *counts) add(more counts) {
	c.planted += more.planted
	c.freed += more.freed
	c.slid += more.slid
	c.right += more.right
	c.wrong += more.wrong
}

func newWorld(t *testing.T, quota, slots int) *world {
	t.Helper()
	return &world{s: empty(t, quota, slots, api.MaxGen), records: map[api.Handle][]uint64{}}
}

// plant makes a tree, if there is room for all of it.
func (w *world) plant(t *testing.T, r *thrower) {
	t.Helper()
	most := []int{2, 5, 40, 200}[r.below(4)]
	pairs := r.pairs(r.below(12), most)
	words := 0
	for _, p := range pairs {
		words += 64 + len(p.Key) + len(p.Val)
	}
	left := w.s.Raw()
	if left.Quota-w.s.Words() < 64*16+words || left.Most-len(w.s.All()) < 3*len(pairs) {
		return
	}
	w.trees = append(w.trees, plant(t, w.s, r.shape(len(pairs)), pairs))
	w.counts.planted++
}

// free frees a tree.
func (w *world) free(t *testing.T, k int) {
	t.Helper()
	x := w.trees[k]
	w.gone = append(w.gone, x.nodes...)
	expectFreed(t, w.s, x)
	w.trees = slices.Delete(w.trees, k, k+1)
	w.counts.freed++
}

// make makes a record beside the trees, some of them of six words, if there is room.
func (w *world) make(t *testing.T, r *thrower) {
	t.Helper()
	words := make([]uint64, []int{0, 1, 2, 6, 6, 9, 70}[r.below(7)])
	h, e := w.s.Make(len(words))
	if e != api.OK {
		return
	}
	for k := range words {
		words[k] = r.next() >> r.below(64)
		expect(t, "the store's Put", w.s.Put(h, k, words[k]), api.OK)
	}
	w.records[h] = words
}

// drop drops a record that is beside the trees.
func (w *world) drop(t *testing.T, r *thrower) {
	t.Helper()
	var all []api.Handle
	for h := range w.records {
		all = append(all, h)
	}
	if len(all) == 0 {
		return
	}
	slices.Sort(all)
	h := all[r.below(len(all))]
	expect(t, "the store's Drop", w.s.Drop(h), api.OK)
	delete(w.records, h)
}

// compact does a few steps.
func (w *world) compact(t *testing.T, steps int) {
	t.Helper()
	c, e := compact.New(w.s)
	expect(t, "New of a compactor", e, api.OK)
	n, _, e := c.Run(steps)
	expect(t, "Run", e, api.OK)
	w.counts.slid += n
}

// spoil lets some nodes of a tree be something else, asks all of it, and lets them be as they were.
func (w *world) spoil(t *testing.T, r *thrower, x tree) {
	t.Helper()
	var was []api.Node
	for _, h := range x.nodes {
		was = append(was, get(t, w.s, h))
	}
	for range 1 + r.below(3) {
		h := x.nodes[r.below(len(x.nodes))]
		expect(t, "the node's Put", node.Put(w.s, h, w.other(t, r, x, get(t, w.s, h))), api.OK)
	}
	if isRight(w.s, x.root) {
		w.counts.right++
		expect(t, "Check", Check(w.s, x.root), api.OK)
	} else {
		w.counts.wrong++
		expectWrong(t, w.s, x.root)
	}
	for k, h := range x.nodes {
		expect(t, "the node's Put", node.Put(w.s, h, was[k]), api.OK)
	}
}

// other throws what a node of a tree could be with one field changed.
func (w *world) other(t *testing.T, r *thrower, x tree, n api.Node) api.Node {
	t.Helper()
	handles := append(w.s.All(), 0, 0, 0, n.Key, n.Val, n.Left, n.Right, api.Handle(r.next()))
	handles = append(handles, x.records(t, w.s)...)
	h := handles[r.below(len(handles))]
	switch r.below(9) {
	case 0:
		n.Key = h
	case 1:
		n.Val = h
	case 2, 3:
		n.Left = h
	case 4, 5:
		n.Right = h
	case 6:
		n.Left, n.Right = n.Right, n.Left
	case 7:
		n.Size = r.next() >> r.below(64)
	case 8:
		n.Mark = r.next()
	}
	if r.below(3) > 0 {
		n.Size = 1 + sizeWord(w.s, n.Left) + sizeWord(w.s, n.Right)
	}
	return n
}

// play does one thrown thing.
func (w *world) play(t *testing.T, r *thrower) {
	t.Helper()
	some := r.below(len(w.trees) + 1)
	switch r.below(10) {
	case 0, 1, 2:
		w.plant(t, r)
	case 3:
		if some < len(w.trees) {
			w.free(t, some)
		}
	case 4, 5:
		w.make(t, r)
	case 6:
		w.drop(t, r)
	case 7:
		w.compact(t, r.below(9))
	case 8:
		w.s = storeOf(t, w.s.Raw())
	case 9:
		if some < len(w.trees) && len(w.trees[some].nodes) > 0 {
			w.spoil(t, r, w.trees[some])
		}
	}
}

// expectAll holds that just these trees and records are there.
func (w *world) expectAll(t *testing.T) {
	t.Helper()
	n := len(w.records)
	for _, x := range w.trees {
		expectTree(t, w.s, x)
		n += 3 * len(x.nodes)
	}
	all := wordsOf(w.s)
	for h, words := range w.records {
		if !slices.Equal(all[h], words) {
			t.Errorf("the record %x is %x, want %x", h, all[h], words)
		}
	}
	if len(all) != n {
		t.Errorf("%d records, want %d", len(all), n)
	}
}

// P11.1 to P11.4: trees answer as lists of pairs by rising keys do, whatever is made, freed and slides beside them, and with some nodes spoilt for a while.
func TestThrownUse(t *testing.T) {
	var all counts
	for seed, c := range []struct{ quota, slots int }{{20000, 1000}, {6400, 300}, {3200, 120}, {20000, 40}} {
		w := newWorld(t, c.quota, c.slots)
		r := thrower(seed + 1000)
		for step := range 300 {
			w.play(t, &r)
			if step%10 == 0 || len(w.trees) < 4 {
				w.expectAll(t)
			}
			if t.Failed() {
				t.Fatalf("New(%d, %d), step %d", c.quota, c.slots, step)
			}
		}
		for _, h := range w.gone {
			expect(t, "Check of what was freed", Check(w.s, h), api.ErrForm)
		}
		for len(w.trees) > 0 {
			w.free(t, r.below(len(w.trees)))
		}
		if len(w.s.All()) != len(w.records) {
			t.Errorf("%d records are left, want %d", len(w.s.All()), len(w.records))
		}
		all.add(w.counts)
	}
	if all.planted < 100 || all.freed < 100 || all.slid < 100 || all.wrong < 50 {
		t.Errorf("this tries too little: %+v", all)
	}
}

// P11.1: trees of few nodes are spoilt in many ways: Check tells what the chapter's words say.
func TestSpoiltTrees(t *testing.T) {
	r := thrower(11)
	var all counts
	for range 60 {
		w := newWorld(t, 3200, 99)
		w.make(t, &r)
		pairs := r.pairs(1+r.below(6), 4)
		x := plant(t, w.s, r.shape(len(pairs)), pairs)
		w.trees = []tree{x, plant(t, w.s, &shape{}, letters(1))}
		for range 40 {
			w.spoil(t, &r, x)
			if t.Failed() {
				return
			}
		}
		w.expectAll(t)
		all.add(w.counts)
	}
	if all.right < 100 || all.wrong < 1000 {
		t.Errorf("this tries too little: %+v", all)
	}
}

// P1 of the whole: the same calls have the same answers.
func TestSameCallsSameAnswers(t *testing.T) {
	row := func() ([]api.Handle, api.Raw) {
		w := newWorld(t, 6400, 300)
		r := thrower(77)
		var told []api.Handle
		for range 200 {
			w.play(t, &r)
			for _, x := range w.trees {
				told = append(told, List(w.s, x.root)...)
			}
		}
		return told, w.s.Raw()
	}
	told, raw := row()
	toldAgain, rawAgain := row()
	if !slices.Equal(told, toldAgain) || !sameRaw(raw, rawAgain) {
		t.Error("the same calls have other answers")
	}
}

// P1 and P3 of the whole: what is asked or refused, at any time, leaves the store going on as one that was not asked.
func TestAskingLeavesNoTrace(t *testing.T) {
	played := func(asked bool) api.Raw {
		w := newWorld(t, 6400, 300)
		r := thrower(5)
		for range 200 {
			w.play(t, &r)
			if asked {
				w.askAll(t)
			}
		}
		return w.s.Raw()
	}
	if !sameRaw(played(true), played(false)) {
		t.Error("asking leaves a trace")
	}
}

// askAll asks all that does not free a tree, and lets trees be freed that are not right.
func (w *world) askAll(t *testing.T) {
	t.Helper()
	for _, x := range w.trees {
		ask(t, w.s, x.root, []string{"", "a", "b\x00"})
	}
	for h, words := range w.records {
		ask(t, w.s, h, []string{"", "a"})
		Pair(w.s, h)
		if len(words) > 0 {
			expect(t, "Free", Free(w.s, h), api.ErrForm)
		}
	}
	for _, h := range w.gone {
		expect(t, "Free", Free(w.s, h), api.ErrForm)
	}
}
