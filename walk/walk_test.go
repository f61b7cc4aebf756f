package walk

import (
	"slices"
	"strings"
	"testing"

	"loft/api"
	"loft/blob"
	"loft/node"
	"loft/store"
)

// abc is the tree of the chapter's examples: its root is b.
func abc(t *testing.T, s *store.Store) tree {
	t.Helper()
	return plant(t, s, &shape{&shape{}, &shape{}}, letters(3))
}

// P11.1, P11.2, P11.3: the chapter's examples.
func TestExamples(t *testing.T) {
	s := empty(t, 1280, 99, 9)
	x := abc(t, s)
	expect(t, "Check", Check(s, x.root), api.OK)
	if n := Size(s, x.root); n != 3 {
		t.Error("Size:", n)
	}
	if h, is := Find(s, x.root, "c"); h != x.nodes[2] || !is {
		t.Error("Find(c):", h, is)
	}
	if n := Rank(s, x.root, "bb"); n != 2 {
		t.Error("Rank(bb):", n)
	}
	expectAt(t, s, x.root, 0, x.nodes[0], api.OK)
	expectAt(t, s, x.root, 3, 0, api.ErrArg)
	expectTree(t, s, x)
	n := get(t, s, x.root)
	n.Size = 2
	with(t, s, x.root, n, func() { expectWrong(t, s, x.root) })
	expectTree(t, s, x)
	expectFreed(t, s, x)
	if s.Words() != 0 {
		t.Error("Free leaves words:", s.Words())
	}
}

// P11.1, P11.2, P11.3: the root 0 has nothing, in any store.
func TestNothing(t *testing.T) {
	for _, s := range []*store.Store{empty(t, 0, 1, 1), empty(t, 640, 9, 9)} {
		expectTree(t, s, tree{})
		expectFreed(t, s, tree{})
	}
	s := empty(t, 1280, 99, 9)
	x := abc(t, s)
	expectTree(t, s, tree{})
	expectFreed(t, s, tree{})
	expectTree(t, s, x)
}

// P11.1, P11.2, P11.3: a tree of one node.
func TestOneNode(t *testing.T) {
	for _, p := range []api.Pair{{}, {Key: "a"}, {Val: "a"}, {Key: "same", Val: "same"}, {Key: "\x00", Val: "\xff"}, {Key: strings.Repeat("k", 1000), Val: strings.Repeat("v", 1000)}} {
		s := empty(t, 1280, 9, 9)
		x := plant(t, s, &shape{}, []api.Pair{p})
		expectTree(t, s, x)
		expectFreed(t, s, x)
		if s.Words() != 0 || len(s.All()) != 0 {
			t.Errorf("%d words are left of the pair %q", s.Words(), p)
		}
	}
}

// P11.1 to P11.4: all shapes of up to 7 nodes.
func TestAllShapes(t *testing.T) {
	for n := range 8 {
		for k, p := range shapes(n) {
			s := empty(t, 1280, 99, 9)
			before := put(t, s, "a text beside the tree")
			x := plant(t, s, p, letters(n))
			record(t, s, 1, 2, 3, 4, 5, 6)
			expectTree(t, s, x)
			expectFreed(t, s, x)
			if _, e := blob.Get(s, before); e != api.OK || len(s.All()) != 2 {
				t.Errorf("%d records are left, want 2", len(s.All()))
			}
			if t.Failed() {
				t.Fatalf("%d nodes, shape %d", n, k)
			}
		}
	}
}

// P11.1 to P11.4: trees that go to one side alone, by turns, and to both.
func TestHighShapes(t *testing.T) {
	for _, n := range []int{8, 9, 64, 200} {
		for k, p := range oddShapes(n) {
			s := empty(t, 1<<14, 999, 9)
			x := plant(t, s, p, numbers(n))
			if len(x.nodes) != n {
				t.Fatalf("%d pairs, want %d", len(x.nodes), n)
			}
			expectTree(t, s, x)
			expectFreed(t, s, x)
			if t.Failed() {
				t.Fatalf("%d nodes, shape %d", n, k)
			}
		}
	}
}

// P1, P11.1, P11.2, P11.3: the way down is as long as there are nodes; all is told all the same.
func TestVeryHigh(t *testing.T) {
	const n = 2000
	for k, p := range oddShapes(n)[:3] {
		s := empty(t, 1<<16, 9999, 9)
		var pairs []api.Pair
		for i := range n {
			pairs = append(pairs, api.Pair{Key: string([]byte{byte(i >> 8), byte(i)}), Val: "v"})
		}
		x := plant(t, s, p, pairs)
		expect(t, "Check", Check(s, x.root), api.OK)
		if !slices.Equal(List(s, x.root), x.nodes) || Size(s, x.root) != n {
			t.Errorf("shape %d: List or Size", k)
		}
		for _, i := range []int{0, 1, 2, n / 2, n - 2, n - 1} {
			expectAt(t, s, x.root, i, x.nodes[i], api.OK)
			expectKey(t, s, x, pairs[i].Key)
			expectKey(t, s, x, pairs[i].Key+"\x00")
		}
		expect(t, "Free", Free(s, x.root), api.OK)
		if len(s.All()) != 0 {
			t.Errorf("shape %d: %d records are left", k, len(s.All()))
		}
	}
}

// P11.1, P11.2, P11.3: keys of no byte, as long as they go, and such as begin another; values alike, and any that are the same.
func TestTextsOfAllSorts(t *testing.T) {
	long := strings.Repeat("m", 999)
	pairs := []api.Pair{
		{Key: ""}, {Key: "\x00", Val: long + "z"}, {Key: "\x00\x00", Val: "v"}, {Key: "\x00a", Val: "v"}, {Key: "a", Val: ""},
		{Key: "a\x00", Val: "a"}, {Key: "a\x00\x00"}, {Key: "aa"}, {Key: "ab", Val: "\x00"}, {Key: "abcdefgh"}, {Key: "abcdefgh\x00"}, {Key: "abcdefghi"},
		{Key: long[:998]}, {Key: long, Val: long}, {Key: long + "\x00"}, {Key: long + "m", Val: long + "m"}, {Key: long + "n"}, {Key: "\x7f"}, {Key: "\x80"}, {Key: "\xff"}, {Key: strings.Repeat("\xff", 1000)},
	}
	r := thrower(5)
	for k, p := range append(oddShapes(len(pairs)), r.shape(len(pairs)), r.shape(len(pairs))) {
		s := empty(t, 1<<14, 99, 9)
		x := plant(t, s, p, pairs)
		expectTree(t, s, x)
		expectFreed(t, s, x)
		if t.Failed() {
			t.Fatalf("shape %d", k)
		}
	}
}

// P11.1: texts of 33 to 40 bytes are records of six words, as nodes are: they may be keys and values all the same.
func TestBlobsOfSixWords(t *testing.T) {
	var pairs []api.Pair
	for n := 33; n <= 40; n++ {
		pairs = append(pairs, api.Pair{Key: strings.Repeat("k", n), Val: strings.Repeat("\x00", n)})
	}
	for _, p := range oddShapes(len(pairs)) {
		s := empty(t, 1<<14, 99, 9)
		x := plant(t, s, p, pairs)
		expectTree(t, s, x)
		n := get(t, s, x.nodes[3])
		expectWrong(t, s, n.Key) // six words they are, but those name no key
		expectFreed(t, s, x)
	}
}

// P11.1: what a Mark is does not count.
func TestMarksDoNotCount(t *testing.T) {
	s := empty(t, 1280, 99, 9)
	x := abc(t, s)
	for _, mark := range []uint64{0, 1, 7, uint64(x.root), top} {
		n := get(t, s, x.root)
		n.Mark = mark
		with(t, s, x.root, n, func() { expectTree(t, s, x) })
	}
}

// P11.1, P11.2, P11.3: each side of a right tree is one itself; what has it is right no more, once it is freed.
func TestSidesAreTrees(t *testing.T) {
	s := empty(t, 1<<14, 99, 9)
	x := plant(t, s, shaped(15, func(both int) int { return both / 2 }), letters(15))
	left := tree{get(t, s, x.root).Left, x.pairs[:7], x.nodes[:7]}
	right := tree{get(t, s, x.root).Right, x.pairs[8:], x.nodes[8:]}
	expectTree(t, s, left)
	expectTree(t, s, right)
	expectFreed(t, s, left)
	expectWrong(t, s, x.root)
	expectTree(t, s, right)
	n := get(t, s, x.root)
	n.Left, n.Size = 0, 8
	expect(t, "the node's Put", node.Put(s, x.root, n), api.OK)
	rest := tree{x.root, x.pairs[7:], x.nodes[7:]}
	expectTree(t, s, rest)
	expectFreed(t, s, rest)
	if s.Words() != 0 {
		t.Error("words are left:", s.Words())
	}
}

// P11.4: Free leaves other trees, blobs, nodes and records, those of the same texts too.
func TestFreeLeavesOthers(t *testing.T) {
	s := empty(t, 1<<14, 999, 9)
	record(t, s)
	x := abc(t, s)
	lone := makeNode(t, s, get(t, s, x.root)) // names the same, but is of no tree
	y := abc(t, s)
	put(t, s, "a")
	put(t, s, "va")
	record(t, s, make([]uint64, 500)...)
	z := plant(t, s, shaped(9, func(both int) int { return both }), letters(9))
	expectFreed(t, s, y)
	expectTree(t, s, x)
	expectTree(t, s, z)
	expectFreed(t, s, x)
	expectTree(t, s, z)
	expectWrong(t, s, x.root)
	expectWrong(t, s, y.root)
	expectWrong(t, s, lone)
	expectFreed(t, s, z)
	if n := len(s.All()); n != 5 {
		t.Errorf("%d records are left, want 5", n)
	}
}

// P11.3: a tree that was freed is there no more: its handles are stale for ever, though its slots have others.
func TestFreedRoots(t *testing.T) {
	s := empty(t, 1280, 9, 9)
	var gone []api.Handle
	for range 9 {
		x := abc(t, s)
		for _, h := range gone {
			expectWrong(t, s, h)
			expectPairError(t, s, h, api.ErrStale)
		}
		gone = append(gone, x.nodes...)
		expectTree(t, s, x)
		expectFreed(t, s, x)
	}
	if s.Words() != 0 {
		t.Error("words are left:", s.Words())
	}
}

// P1 and the rules: what List answers is new memory.
func TestListIsNew(t *testing.T) {
	s := empty(t, 1280, 99, 9)
	x := abc(t, s)
	l := List(s, x.root)
	clear(l)
	_ = append(l[:1], 1, 1, 1, 1)
	expectTree(t, s, x)
}

// P11.1, P11.2, P11.3: no store, or one that nobody made: ErrNil, ahead of all that can be wrong beside it, and nothing.
func TestNoStore(t *testing.T) {
	live := abc(t, empty(t, 1280, 99, 9)).root
	for k, s := range noStores() {
		for _, root := range append([]api.Handle{0, live}, oddHandles...) {
			expect(t, "Check", Check(s, root), api.ErrNil)
			expect(t, "Free", Free(s, root), api.ErrNil)
			for _, k := range append([]int{0, 1, 2, 3}, oddPlaces...) {
				expectAt(t, s, root, k, 0, api.ErrNil)
			}
			expectPairError(t, s, root, api.ErrNil)
			expectNothing(t, s, root)
		}
		if t.Failed() {
			t.Fatalf("store %d", k)
		}
	}
}

// expectNothing holds that Size, List, Find and Rank answer nothing.
func expectNothing(t *testing.T, s *store.Store, root api.Handle) {
	t.Helper()
	if n, l := Size(s, root), List(s, root); n != 0 || len(l) != 0 {
		t.Errorf("of %x: Size %d, List %x", root, n, l)
	}
	for _, key := range []string{"", "a", "b", "zz", strings.Repeat("z", 1001)} {
		h, is := Find(s, root, key)
		if n := Rank(s, root, key); h != 0 || is || n != 0 {
			t.Errorf("of %x: Find(%q) %x, %t, Rank %d", root, key, h, is, n)
		}
	}
}

func expectPairError(t *testing.T, s *store.Store, h api.Handle, want api.Errno) {
	t.Helper()
	was := s.Raw()
	if p, e := Pair(s, h); p != (api.Pair{}) || e != want {
		t.Errorf("Pair(%x): %q, %d; want the error %d", h, p, e, want)
	}
	expectRaw(t, s, was)
}

// P11.3: Pair looks at the node and its blobs alone, not at its sides, its Size or its Mark.
func TestPairOfNodesInNoTree(t *testing.T) {
	s := empty(t, 1280, 99, 9)
	key, val := put(t, s, "key"), put(t, s, "val")
	for _, n := range []api.Node{{}, {Size: 1}, {Left: 1, Right: top, Mark: top, Size: top}, {Left: key, Right: val}} {
		n.Key, n.Val = key, val
		h := makeNode(t, s, n)
		if p, e := Pair(s, h); p != (api.Pair{Key: "key", Val: "val"}) || e != api.OK {
			t.Errorf("Pair: %q, %d", p, e)
		}
	}
	h := makeNode(t, s, api.Node{Key: key, Val: key})
	if p, e := Pair(s, h); p != (api.Pair{Key: "key", Val: "key"}) || e != api.OK {
		t.Errorf("Pair: %q, %d", p, e)
	}
}

// P11.3: the errors of Pair: the node's first, then its key's, then its value's.
func TestPairErrors(t *testing.T) {
	s := empty(t, 1<<14, 99, 9)
	good, form, stale := put(t, s, "a"), record(t, s, 1, 1), put(t, s, "b")
	expect(t, "Drop", blob.Drop(s, stale), api.OK)
	for _, h := range append([]api.Handle{0, stale, 50 + gen1}, oddHandles...) {
		expectPairError(t, s, h, api.ErrStale)
		expectPairError(t, s, makeNode(t, s, api.Node{Key: h, Val: good}), api.ErrStale)
		expectPairError(t, s, makeNode(t, s, api.Node{Key: good, Val: h}), api.ErrStale)
	}
	for _, words := range [][]uint64{nil, {0}, {1, 1}, {1, 2, 3, 4, 5}, {1, 2, 3, 4, 5, 6, 7}, make([]uint64, 3998)} {
		expectPairError(t, s, record(t, s, words...), api.ErrForm)
	}
	other := makeNode(t, s, api.Node{Key: good, Val: good})
	for _, c := range []struct {
		key, val api.Handle
		want     api.Errno
	}{
		{form, good, api.ErrForm}, {good, form, api.ErrForm}, {form, form, api.ErrForm}, {stale, stale, api.ErrStale},
		{form, stale, api.ErrForm}, {stale, form, api.ErrStale}, {other, good, api.ErrForm}, {good, other, api.ErrForm},
	} {
		expectPairError(t, s, makeNode(t, s, api.Node{Key: c.key, Val: c.val}), c.want)
	}
}
