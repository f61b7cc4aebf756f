package avl

import (
	"slices"
	"testing"

	"loft/api"
	"loft/compact"
	"loft/store"
)

// piece is a tree, or a node that is in none yet.
type piece struct {
	tree
	joined bool
}

// forest is a store with pieces, by rising keys, no two trees of them side by side, and the other records that must be in it.
type forest struct {
	s       *store.Store
	pieces  []piece
	records map[api.Handle][]uint64
	counts  counts
}

// counts are how often things happened, so that a test can tell that it tried enough.
type counts struct{ joined, both, slid, others int }

func (c *counts) add(more counts) {
	c.joined += more.joined
	c.both += more.both
	c.slid += more.slid
	c.others += more.others
}

// join joins one of the nodes that are in no tree with the trees beside it.
func (f *forest) join(t *testing.T, r *thrower) {
	t.Helper()
	var lone []int
	for k, p := range f.pieces {
		if !p.joined {
			lone = append(lone, k)
		}
	}
	if len(lone) == 0 {
		return
	}
	at := lone[r.below(len(lone))]
	from, to := at, at+1
	var left, right tree
	if at > 0 && f.pieces[at-1].joined {
		from, left = at-1, f.pieces[at-1].tree
	}
	if to < len(f.pieces) && f.pieces[to].joined {
		right, to = f.pieces[to].tree, to+1
	}
	if left.root != 0 && right.root != 0 {
		f.counts.both++
	}
	things := junk(left.root, f.pieces[at].nodes[0], right.root)
	spoil(t, f.s, f.pieces[at].nodes[0], things[r.below(len(things))])
	x := join(t, f.s, left, f.pieces[at].tree, right)
	f.pieces = slices.Replace(f.pieces, from, to, piece{x, true})
	f.counts.joined++
}

// make makes a record beside the trees, some of them of six words, if there is room.
func (f *forest) make(t *testing.T, r *thrower) {
	t.Helper()
	words := make([]uint64, []int{0, 1, 2, 6, 6, 9, 70}[r.below(7)])
	h, e := f.s.Make(len(words))
	if e != api.OK {
		return
	}
	for k := range words {
		words[k] = r.next() >> r.below(64)
		expect(t, "the store's Put", f.s.Put(h, k, words[k]), api.OK)
	}
	f.records[h] = words
	f.counts.others++
}

// drop drops a record that is beside the trees.
func (f *forest) drop(t *testing.T, r *thrower) {
	t.Helper()
	var all []api.Handle
	for h := range f.records {
		all = append(all, h)
	}
	if len(all) == 0 {
		return
	}
	slices.Sort(all)
	h := all[r.below(len(all))]
	expect(t, "the store's Drop", f.s.Drop(h), api.OK)
	delete(f.records, h)
}

// compact does a few steps.
func (f *forest) compact(t *testing.T, steps int) {
	t.Helper()
	c, e := compact.New(f.s)
	expect(t, "New of a compactor", e, api.OK)
	n, _, e := c.Run(steps)
	expect(t, "Run", e, api.OK)
	f.counts.slid += n
}

// refuse asks for what is refused: a node of a tree is no other tree's, so what is wrong here is a name.
func (f *forest) refuse(t *testing.T, r *thrower) {
	t.Helper()
	was := f.s.Raw()
	root := f.pieces[r.below(len(f.pieces))].root
	no := oddHandles[r.below(len(oddHandles))]
	for _, p := range [][3]api.Handle{{root, 0, 0}, {root, no, 0}, {no, f.pieces[0].nodes[0], root}, {root, f.pieces[0].nodes[0], no}} {
		if h, e := Join(f.s, p[0], p[1], p[2]); h != 0 || e != api.ErrForm {
			t.Errorf("Join(%x): %x, %d", p, h, e)
		}
	}
	expectRaw(t, f.s, was)
}

// expectAll holds that just these trees, nodes and records are there.
func (f *forest) expectAll(t *testing.T) {
	t.Helper()
	n := len(f.records)
	for _, p := range f.pieces {
		if p.joined {
			expectTree(t, f.s, p.tree)
		}
		n += 3 * len(p.nodes)
	}
	all := wordsOf(f.s)
	for h, words := range f.records {
		if !slices.Equal(all[h], words) {
			t.Errorf("the record %x is %x, want %x", h, all[h], words)
		}
	}
	if len(all) != n {
		t.Errorf("%d records, want %d", len(all), n)
	}
	expect(t, "Audit", f.s.Audit(), api.OK)
}

// P12.1 to P12.3, P3 of the whole: nodes are joined in any order, while other records are made, dropped and brought together, and the store goes on as a raw of its own.
func TestThrownUse(t *testing.T) {
	var all counts
	for seed := range 12 {
		r := thrower(seed + 300)
		f := forest{s: empty(t, 1<<15, 500, api.MaxGen), records: map[api.Handle][]uint64{}}
		for _, k := range []int{2, 5, 9} { // so that there are holes to be filled
			f.make(t, &r)
			record(t, f.s, make([]uint64, k)...)
		}
		for _, h := range f.s.All() {
			if _, is := f.records[h]; !is {
				expect(t, "the store's Drop", f.s.Drop(h), api.OK)
			}
		}
		pairs := numbers(5 + 9*seed)
		for _, p := range pairs {
			f.pieces = append(f.pieces, piece{tree: loose(t, f.s, []api.Pair{p})})
			f.make(t, &r)
		}
		for step := 0; len(f.pieces) > 1 || !f.pieces[0].joined; step++ {
			switch r.below(7) {
			case 0:
				f.make(t, &r)
			case 1, 2:
				f.drop(t, &r)
			case 3:
				f.compact(t, r.below(9))
			case 4:
				f.s = storeOf(t, f.s.Raw())
			case 5:
				f.refuse(t, &r)
			default:
				f.join(t, &r)
			}
			if step%16 == 0 || len(f.pieces) < 4 {
				f.expectAll(t)
			}
			if t.Failed() {
				t.Fatalf("seed %d, step %d", seed, step)
			}
		}
		expectTree(t, f.s, tree{f.pieces[0].root, pairs, f.pieces[0].nodes})
		all.add(f.counts)
	}
	if all.joined < 500 || all.both < 100 || all.slid < 100 || all.others < 500 {
		t.Errorf("this tries too little: %+v", all)
	}
}
