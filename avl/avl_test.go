package avl

import (
	"slices"
	"testing"

	"loft/api"
	"loft/blob"
	"loft/node"
)

// P12.1, P12.2: the chapter's examples.
func TestExamples(t *testing.T) {
	s := empty(t, 6400, 99, 9)
	x := loose(t, s, letters(8))
	root, e := Join(s, 0, x.nodes[0], 0)
	if root != x.nodes[0] || e != api.OK || Height(s, root) != 1 {
		t.Errorf("a node alone: %x, %d, of the height %d", root, e, Height(s, root))
	}
	for k := 1; k < 8; k++ {
		if root, e = Join(s, root, x.nodes[k], 0); e != api.OK {
			t.Fatalf("Join: %d", e)
		}
	}
	if Height(s, root) != 4 {
		t.Errorf("eight nodes have the height %d", Height(s, root))
	}
	expectTree(t, s, tree{root, x.pairs, x.nodes})
}

// P12.1: the tree that has nothing is one, of the height 0.
func TestNothing(t *testing.T) {
	s := empty(t, 6400, 99, 9)
	expectTree(t, s, tree{})
	plant(t, s, full(2), letters(3))
	expectTree(t, s, tree{})
}

// P12.1: of all shapes of up to 7 nodes, with the Marks right, just those are AVL trees whose sides are nowhere apart by two.
func TestAllShapesOfFewNodes(t *testing.T) {
	for n := range 8 {
		y := newYard(t, n)
		for _, p := range shapes(n) {
			if x := y.wire(t, y.s, p); p.isLevel() {
				expectTree(t, y.s, x)
			} else {
				y.expectNone(t, x.root)
			}
		}
	}
}

// P12.1: all AVL trees of small heights, the least and the greatest ones of heights up to 8, and thrown ones.
func TestAvlTrees(t *testing.T) {
	var row []*shape
	for h := range 5 {
		row = append(row, levelShapes(h)...)
	}
	r := thrower(12)
	for h := range 9 {
		row = append(row, least(h), least(h).mirrored(), turned(h), full(h), r.levelShape(h), r.levelShape(h))
	}
	s := empty(t, 1<<15, 999, 9)
	x := loose(t, s, numbers(255))
	for _, p := range row {
		expectTree(t, s, x.part(0, p.size()).wire(t, s, p))
	}
}

// P12.3: the bound is met by the trees that have the fewest nodes, and by no other ones.
func TestHighestOfEachSize(t *testing.T) {
	for h := range 5 {
		fewest := fewest(h)
		for _, p := range levelShapes(h) {
			if n := p.size(); n < fewest || highest(n) < h {
				t.Errorf("a shape of %d nodes has the height %d", n, h)
			}
		}
		if n := least(h).size(); n != fewest || highest(n) != h || h > 0 && highest(n-1) != h-1 {
			t.Errorf("the least shape of the height %d has %d nodes", h, n)
		}
	}
	if highest(88) != 9 || highest(87) != 8 || highest(986) != 14 || highest(985) != 13 {
		t.Errorf("the bounds are %d, %d, %d, %d", highest(88), highest(87), highest(986), highest(985))
	}
}

// sides are two shapes that are joined with a node between them.
type sides struct{ l, r *shape }

// expectJoins joins trees of all these shapes, of nodes that are used again and again, m being another thing each time.
func expectJoins(t *testing.T, most int, row []sides) {
	t.Helper()
	s := empty(t, 1<<17, 4*most+9, 9)
	record(t, s, 1, 2, 3, 4, 5, 6)
	x := loose(t, s, numbers(most))
	record(t, s, 7, 8)
	for k, p := range row {
		nl, nr := p.l.size(), p.r.size()
		l := x.part(0, nl).wire(t, s, p.l)
		m := x.part(nl, nl+1)
		r := x.part(nl+1, nl+1+nr).wire(t, s, p.r)
		things := junk(l.root, m.nodes[0], r.root)
		spoil(t, s, m.nodes[0], things[k%len(things)])
		join(t, s, l, m, r)
		if t.Failed() {
			t.Fatalf("Join %d, of the heights %d and %d, with %d and %d nodes", k, p.l.height(), p.r.height(), nl, nr)
		}
	}
}

// P12.2, P12.3: trees of all AVL shapes of heights up to 3 on both sides, and of the height 4 on either side of all of up to 2.
func TestJoinOfAllShapes(t *testing.T) {
	var low, small []*shape
	for h := range 4 {
		small = append(small, levelShapes(h)...)
		if h <= 2 {
			low = append(low, levelShapes(h)...)
		}
	}
	var row []sides
	for _, l := range small {
		for _, r := range small {
			row = append(row, sides{l, r})
		}
	}
	for _, high := range levelShapes(4) {
		for _, p := range low {
			row = append(row, sides{high, p}, sides{p, high})
		}
	}
	expectJoins(t, 40, row)
}

// P12.2, P12.3: trees of every height up to 9 on both sides, such as have the fewest nodes, the most, and others.
func TestJoinOfAllHeights(t *testing.T) {
	r := thrower(3)
	var row []sides
	for hl := range 10 {
		for hr := range 10 {
			ls := []*shape{least(hl), least(hl).mirrored(), turned(hl), full(min(hl, 7)), r.levelShape(hl)}
			rs := []*shape{least(hr), least(hr).mirrored(), turned(hr), full(min(hr, 7)), r.levelShape(hr)}
			for k := range ls {
				row = append(row, sides{ls[k], rs[r.below(len(rs))]})
			}
		}
	}
	expectJoins(t, 700, row)
}

// P12.2, P12.3: a tree of some hundred nodes, and nothing, or a tree of one, two, three nodes: as far apart as may be.
func TestJoinFarApart(t *testing.T) {
	r := thrower(4)
	var row []sides
	for _, high := range []*shape{least(12), least(12).mirrored(), turned(12), turned(12).mirrored(), full(9), r.levelShape(10), r.levelShape(10)} {
		for _, low := range []*shape{nil, full(1), least(2), least(2).mirrored(), full(2), turned(4)} {
			row = append(row, sides{high, low}, sides{low, high})
		}
	}
	expectJoins(t, 1200, row)
}

// P12.2: what m is ahead of the call, but for its Key and its Val, does not matter: all that a field could be, beside sides of all sorts.
func TestWhatTheNodeWas(t *testing.T) {
	for _, p := range []sides{{nil, nil}, {full(1), nil}, {nil, full(2)}, {least(3), full(1)}, {full(1), least(4)}, {full(3), full(3)}, {least(5), full(2)}} {
		s := empty(t, 1<<14, 199, 9)
		n := p.l.size() + 1 + p.r.size()
		x := loose(t, s, letters(n))
		m := x.part(p.l.size(), p.l.size()+1)
		again := func(other api.Node) (api.Handle, api.Raw) {
			l, r := x.part(0, p.l.size()).wire(t, s, p.l), x.part(p.l.size()+1, n).wire(t, s, p.r)
			spoil(t, s, m.nodes[0], other)
			return join(t, s, l, m, r).root, s.Raw()
		}
		want, raw := again(api.Node{})
		others := junk(x.nodes[0], m.nodes[0], x.nodes[n-1])
		for _, w := range oddWords {
			others = append(others, api.Node{Mark: w}, api.Node{Size: w}, api.Node{Left: api.Handle(w)}, api.Node{Right: api.Handle(w)})
		}
		for _, h := range s.All() {
			others = append(others, api.Node{Left: h}, api.Node{Right: h})
		}
		for _, other := range others {
			if root, now := again(other); root != want || !sameRaw(now, raw) {
				t.Errorf("joined with a node that was %x: %x, want %x", other, root, want)
			}
		}
	}
}

// P12.2: the key and the value of a node, and all that there is beside, are not looked at by Join: blobs are shared, texts are long, and records that are no node's have a node's words.
func TestWhatIsBeside(t *testing.T) {
	s := empty(t, 1<<15, 199, 9)
	before := record(t, s, 1, 2, 3, 4, 5)
	l := plant(t, s, least(3), letters(8)[:4])
	six := record(t, s, uint64(l.nodes[0]), 0, uint64(l.root), 0, 1, 1)
	m := loose(t, s, letters(8)[4:5])
	r := plant(t, s, full(1), letters(8)[5:6])
	other := plant(t, s, full(2), letters(3))
	behind := record(t, s, uint64(m.nodes[0]), uint64(r.root), 9, 9, 9, 9, 9)
	was := wordsOf(s)
	x := join(t, s, l, m, r)
	for _, h := range append(slices.Clone(other.nodes), before, six, behind) {
		if now := wordsOf(s)[h]; !slices.Equal(now, was[h]) {
			t.Errorf("the record %x is %x, want %x", h, now, was[h])
		}
	}
	expectTree(t, s, other)
	expectTree(t, s, x)
}

// P12.2: a node is any record of six words; what its Key and its Val name is not asked.
func TestNodesWithoutBlobs(t *testing.T) {
	s := empty(t, 6400, 99, 9)
	m := record(t, s, 11, 12, 13, 14, 15, 16)
	root, e := Join(s, 0, m, 0)
	if want := (api.Node{Key: 11, Val: 12, Mark: 1, Size: 1}); root != m || e != api.OK || get(t, s, m) != want {
		t.Errorf("Join: %x, %d; it is %x, want %x", root, e, get(t, s, m), want)
	}
	expect(t, "Check", Check(s, root), api.ErrForm)
	if Height(s, root) != 1 {
		t.Errorf("Height: %d", Height(s, root))
	}
}

// P12.2, P12.3, P9 of the whole: many nodes, joined one behind the other, at the right and at the left and by turns.
func TestOneBehindTheOther(t *testing.T) {
	const n = 200
	for name, toLeft := range map[string]func(k int) bool{
		"at the right": func(k int) bool { return false },
		"at the left":  func(k int) bool { return true },
		"by turns":     func(k int) bool { return k%2 == 0 },
		"by tens":      func(k int) bool { return k/10%2 == 0 },
	} {
		s := empty(t, 1<<15, 3*n, 9)
		x := loose(t, s, numbers(n))
		from := 0
		for k := range n {
			if toLeft(k) {
				from++
			}
		}
		y, to := tree{}, from
		for k := range n {
			if toLeft(k) {
				from--
				y = join(t, s, tree{}, x.part(from, from+1), y)
			} else {
				y = join(t, s, y, x.part(to, to+1), tree{})
				to++
			}
		}
		if t.Failed() || len(y.nodes) != n {
			t.Fatalf("%s: %d nodes", name, len(y.nodes))
		}
	}
}

// P12.2, P12.3, P9 of the whole: the same of some thousand nodes, looked at when all are joined.
func TestManyOneBehindTheOther(t *testing.T) {
	const n = 4000
	s := empty(t, api.MaxQuota, 3*n, 9)
	x := loose(t, s, numbers(n))
	for _, toLeft := range []bool{false, true} {
		var e api.Errno
		x.root = 0
		for k := range n {
			if high := highest(k); Height(s, x.root) > high {
				t.Fatalf("%d nodes have the height %d, more than %d", k, Height(s, x.root), high)
			}
			if toLeft {
				x.root, e = Join(s, 0, x.nodes[n-1-k], x.root)
			} else {
				x.root, e = Join(s, x.root, x.nodes[k], 0)
			}
			if e != api.OK {
				t.Fatalf("Join %d: %d", k, e)
			}
		}
		expectTree(t, s, x)
	}
}

// P12.2, P12.3, P9 of the whole: nodes that are joined in any order: each with what is at its sides, be it one node or many.
func TestJoinsInAnyOrder(t *testing.T) {
	r := thrower(9)
	for range 30 {
		n := 1 + r.below(200)
		s := empty(t, 1<<15, 3*n, 9)
		f := forest{s: s}
		for _, p := range numbers(n) {
			f.pieces = append(f.pieces, piece{tree: loose(t, s, []api.Pair{p})})
		}
		for len(f.pieces) > 1 || !f.pieces[0].joined {
			f.join(t, &r)
			if t.Failed() {
				t.Fatalf("%d nodes, %d pieces", n, len(f.pieces))
			}
		}
		expectTree(t, s, f.pieces[0].tree)
	}
}

// P5 of the whole, P12.2: handles of high generations, and of the last one.
func TestHighGenerations(t *testing.T) {
	old := make([]api.Slot, 30)
	for k := range old {
		old[k].Gen = api.MaxGen - 1
	}
	s := storeOf(t, api.Raw{Quota: 6400, Most: 30, Last: api.MaxGen, Slots: old})
	x := loose(t, s, letters(10))
	y := tree{}
	for k := range 10 {
		y = join(t, s, y, x.part(k, k+1), tree{})
	}
	if y.root>>32 != api.MaxGen {
		t.Errorf("the root is %x", y.root)
	}
}

// P12.2: at a quota that is used up, with no handle left: Join needs no room.
func TestJoinWithoutRoom(t *testing.T) {
	s := empty(t, 640, 31, 1)
	x := loose(t, s, letters(10))
	for {
		if _, e := s.Make(0); e != api.OK {
			break
		}
	}
	for n := 3998; n >= 0; n-- {
		if _, e := s.Make(n); e == api.OK {
			t.Fatal("there is room")
		}
	}
	y := tree{}
	for k := range 10 {
		y = join(t, s, y, x.part(k, k+1), tree{})
	}
	expectTree(t, s, y)
}

// P12.1: a node is what it is, whoever made it.
func TestTreesOfOtherHands(t *testing.T) {
	s := empty(t, 640, 31, 9)
	k, _ := blob.Put(s, "k")
	v, _ := blob.Put(s, "v")
	root := record(t, s, uint64(k), uint64(v), 0, 0, 1, 1)
	expectTree(t, s, tree{root, []api.Pair{{Key: "k", Val: "v"}}, []api.Handle{root}})
	expect(t, "Drop", node.Drop(s, root), api.OK)
	expect(t, "Check", Check(s, root), api.ErrForm)
}

// P1 of the whole: stores of the same past answer the same, and are the same behind it.
func TestSameCallsSameAnswers(t *testing.T) {
	s := empty(t, 1<<15, 400, 9)
	x := loose(t, s, numbers(60))
	root := api.Handle(0)
	for _, m := range x.nodes {
		twin := storeOf(t, s.Raw())
		want, wantE := Join(twin, root, m, 0)
		got, e := Join(s, root, m, 0)
		if got != want || e != wantE || Height(s, got) != Height(twin, got) || Check(s, got) != Check(twin, got) {
			t.Errorf("Join: %x, %d; in the twin %x, %d", got, e, want, wantE)
		}
		expectRaw(t, twin, s.Raw())
		root = got
	}
}
