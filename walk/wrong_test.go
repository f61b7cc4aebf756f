package walk

import (
	"slices"
	"strings"
	"testing"

	"loft/api"
	"loft/blob"
	"loft/node"
	"loft/store"
)

// grove is a store with a right tree of seven nodes, and with records beside it that are none of its own.
type grove struct {
	s *store.Store
	tree
	other    tree       // of the same keys
	lone     api.Handle // a node of blobs of its own, which are of no tree
	blob     api.Handle
	six      api.Handle // a blob of six words
	form     api.Handle // a record that is neither a node nor a blob
	none     api.Handle // a record of no word
	dropped  api.Handle
	sixWords api.Handle // a node whose words are no blob's, and name nothing
}

func newGrove(t *testing.T, p *shape) grove {
	t.Helper()
	s := empty(t, 1<<14, 99, 9)
	g := grove{s: s, tree: plant(t, s, p, letters(p.size())), other: plant(t, s, p, letters(p.size()))}
	g.lone = makeNode(t, s, api.Node{Key: put(t, s, "dd"), Val: put(t, s, ""), Size: 1})
	g.blob, g.six = put(t, s, "aa"), put(t, s, strings.Repeat("a", 36))
	g.form, g.none, g.dropped = record(t, s, 1, 1), record(t, s), put(t, s, "")
	g.sixWords = record(t, s, 1, 2, 3, 4, 5, 6)
	expect(t, "Drop", blob.Drop(s, g.dropped), api.OK)
	return g
}

// expectStill holds that both trees are right, as they were.
func (g grove) expectStill(t *testing.T) {
	t.Helper()
	expectTree(t, g.s, g.tree)
	expectTree(t, g.s, g.other)
}

// expectWrongWith lets a node be something else, and holds that the tree is not right while it is.
func (g grove) expectWrongWith(t *testing.T, h api.Handle, n api.Node) {
	t.Helper()
	if !isRight(g.s, g.root) {
		t.Fatal("the tree was not right ahead of this")
	}
	with(t, g.s, h, n, func() {
		if isRight(g.s, g.root) {
			t.Fatalf("by the chapter's words it is right: %x is %x", h, n)
		}
		expectWrong(t, g.s, g.root)
	})
	if t.Failed() {
		t.Fatalf("%x is %x", h, n)
	}
}

// sevens are trees of seven nodes.
func sevens() []*shape {
	return oddShapes(7)
}

// P11.1, P11.3: a root that names nothing, that was dropped, or that is no node's.
func TestWrongRoots(t *testing.T) {
	g := newGrove(t, sevens()[4])
	for _, root := range append([]api.Handle{g.dropped, 90 + gen1, g.root + gen1, g.root - gen1, g.blob, g.six, g.form, g.none, g.sixWords, get(t, g.s, g.root).Key}, oddHandles...) {
		expectWrong(t, g.s, root)
		if root != g.sixWords { // that tells a Size of its own
			expectNothing(t, g.s, root)
		}
	}
	g.expectStill(t)
}

// P11.1, P11.3: a side that is no node, or names nothing.
func TestSidesThatAreNoNodes(t *testing.T) {
	for _, p := range sevens() {
		g := newGrove(t, p)
		for _, h := range g.nodes {
			for _, side := range append([]api.Handle{g.dropped, 90 + gen1, h + gen1, g.blob, g.six, g.form, g.none, g.sixWords, get(t, g.s, h).Key, get(t, g.s, h).Val}, oddHandles...) {
				n := get(t, g.s, h)
				n.Left = side
				g.expectWrongWith(t, h, n)
				n = get(t, g.s, h)
				n.Right = side
				g.expectWrongWith(t, h, n)
			}
		}
		g.expectStill(t)
	}
}

// P1, P11.1, P11.3: a side that is the node's own self, or one above it, or one that is reached twice: each node is each one's either side, with its Size as it was, and such as its sides would have it.
func TestNodesReachedTwice(t *testing.T) {
	right, wrong := 0, 0
	for _, p := range sevens() {
		g := newGrove(t, p)
		for _, h := range g.nodes {
			for _, side := range g.nodes {
				n := get(t, g.s, h)
				for _, sides := range [][2]api.Handle{{side, n.Right}, {n.Left, side}, {side, side}} {
					other := n
					other.Left, other.Right = sides[0], sides[1]
					for _, size := range []uint64{n.Size, 1 + sizeWord(g.s, sides[0]) + sizeWord(g.s, sides[1])} {
						other.Size = size
						if g.expectAsJudged(t, h, other) {
							right++
						} else {
							wrong++
						}
					}
				}
			}
		}
		g.expectStill(t)
	}
	if right < 50 || wrong < 1000 { // a side of a side in its place, say, leaves a tree right
		t.Errorf("this tries too little: %d right ones, %d others", right, wrong)
	}
}

// sizeWord is the Size that a node tells (0, where there is none).
func sizeWord(s *store.Store, h api.Handle) uint64 {
	n, _ := node.Get(s, h)
	return n.Size
}

// expectAsJudged lets a node be something else, and holds that the tree is right just then when it is by the chapter's words.
func (g grove) expectAsJudged(t *testing.T, h api.Handle, n api.Node) bool {
	t.Helper()
	var right bool
	with(t, g.s, h, n, func() {
		if right = isRight(g.s, g.root); right {
			expect(t, "Check", Check(g.s, g.root), api.OK)
		} else {
			expectWrong(t, g.s, g.root)
		}
	})
	if t.Failed() {
		t.Fatalf("%x is %x", h, n)
	}
	return right
}

// P1, P11.1, P11.3: the whole of another tree, or a part of the same one, is at a side: nodes are reached twice, or keys are.
func TestOtherTreesAtSides(t *testing.T) {
	for _, p := range sevens() {
		g := newGrove(t, p)
		for k, h := range g.nodes {
			n := get(t, g.s, h)
			n.Left = g.other.nodes[k]
			g.expectWrongWith(t, h, n)
			n = get(t, g.s, h)
			n.Right = g.other.root
			g.expectWrongWith(t, h, n)
			n.Left, n.Right = g.lone, g.lone
			g.expectWrongWith(t, h, n)
		}
		g.expectStill(t)
	}
}

// P11.1, P11.3: a Key or a Val that is no blob.
func TestNoBlobs(t *testing.T) {
	for _, p := range sevens() {
		g := newGrove(t, p)
		for _, h := range g.nodes {
			for _, no := range append([]api.Handle{0, g.dropped, 90 + gen1, get(t, g.s, h).Key + gen1, g.form, g.none, g.sixWords, h, g.root, g.nodes[0], g.nodes[6], g.other.root, g.lone}, oddHandles...) {
				n := get(t, g.s, h)
				n.Key = no
				g.expectWrongWith(t, h, n)
				n = get(t, g.s, h)
				n.Val = no
				g.expectWrongWith(t, h, n)
			}
		}
		g.expectStill(t)
	}
}

// P11.1, P11.3: a blob that two nodes have, or one node twice, in all pairs of places.
func TestBlobsThatAreShared(t *testing.T) {
	for _, p := range sevens() {
		g := newGrove(t, p)
		for k, h := range g.nodes {
			for i, from := range g.nodes {
				n, other := get(t, g.s, h), get(t, g.s, from)
				if i != k {
					n.Key = other.Key
					g.expectWrongWith(t, h, n)
					n.Key, n.Val = get(t, g.s, h).Key, other.Val
					g.expectWrongWith(t, h, n)
				}
				n = get(t, g.s, h)
				n.Val = other.Key
				g.expectWrongWith(t, h, n)
				n = get(t, g.s, h)
				n.Key = other.Val
				g.expectWrongWith(t, h, n)
			}
		}
		g.expectStill(t)
	}
}

// P11.1: a Val of the same text as another one, and a Key of the text of a Val, are right, as long as they are other blobs.
func TestTextsMayBeShared(t *testing.T) {
	for _, p := range sevens() {
		s := empty(t, 1<<14, 99, 9)
		x := plant(t, s, p, []api.Pair{{Key: "a", Val: "g"}, {Key: "b", Val: "g"}, {Key: "c", Val: "c"}, {Key: "d", Val: "a"}, {Key: "e"}, {Key: "f"}, {Key: "g", Val: "g"}})
		expectTree(t, s, x)
		expectFreed(t, s, x)
	}
}

// P11.1, P11.3: a Size that is not 1 and those of the sides.
func TestWrongSizes(t *testing.T) {
	for _, p := range sevens() {
		g := newGrove(t, p)
		for _, h := range g.nodes {
			is := get(t, g.s, h).Size
			for _, size := range []uint64{0, 1, 2, 3, 4, 5, 6, 7, 8, 14, is - 1, is + 1, is + 2, 65535, 65536, 65537, 1<<31 - 1, 1 << 31, 1<<32 + is, 1<<63 - 1, 1 << 63, 1<<63 + is, -is, top - 1, top} {
				if n := get(t, g.s, h); size != is {
					n.Size = size
					g.expectWrongWith(t, h, n)
				}
			}
		}
		g.expectStill(t)
	}
}

// P11.1, P11.3: each node's Size agrees with its sides', but that of a node without sides is not 1, or that of one of them wraps round.
func TestSizesThatAgreeAllButOne(t *testing.T) {
	for _, p := range sevens() {
		g := newGrove(t, p)
		for _, first := range g.nodes {
			for _, more := range []uint64{1, 2, 58, 65530, 1 << 32, 1 << 63, top, top - 1, top - 7, -get(t, g.s, first).Size} {
				x := newGrove(t, p)
				at := slices.Index(g.nodes, first)
				for _, h := range above(t, x, x.nodes[at]) {
					n := get(t, x.s, h)
					n.Size += more
					expect(t, "the node's Put", node.Put(x.s, h, n), api.OK)
				}
				expectWrong(t, x.s, x.root)
				if t.Failed() {
					t.Fatalf("the node %d has %d more, and all above it", at, more)
				}
			}
		}
	}
}

// above are a node and all those above it.
func above(t *testing.T, g grove, h api.Handle) []api.Handle {
	t.Helper()
	row := []api.Handle{h}
	for row[len(row)-1] != g.root {
		for _, up := range g.nodes {
			if n := get(t, g.s, up); n.Left == row[len(row)-1] || n.Right == row[len(row)-1] {
				row = append(row, up)
				break
			}
		}
	}
	return row
}

// P11.1, P11.3: all keys of up to four nodes in all shapes: only those that rise are right.
func TestAllOrdersOfKeys(t *testing.T) {
	for n := 2; n <= 4; n++ {
		for _, p := range shapes(n) {
			s := empty(t, 1280, 99, 9)
			x := plant(t, s, p, letters(n))
			blobs := make([][]api.Handle, n)
			for k := range blobs {
				for _, key := range orderKeys() {
					blobs[k] = append(blobs[k], put(t, s, key))
				}
			}
			for code := range 1 << (2 * n) {
				expectOrder(t, s, x, blobs, code)
			}
		}
	}
}

// orderKeys are those that nodes have in all orders.
func orderKeys() []string {
	return []string{"", "a", "a\x00", "b"}
}

// expectOrder gives the nodes of a tree, from the left on, keys of two bits of a number each.
func expectOrder(t *testing.T, s *store.Store, x tree, blobs [][]api.Handle, code int) {
	t.Helper()
	x = tree{x.root, slices.Clone(x.pairs), x.nodes}
	keys := make([]string, len(x.nodes))
	for k, h := range x.nodes {
		which := code >> (2 * k) & 3
		keys[k] = orderKeys()[which]
		x.pairs[k].Key = keys[k]
		n := get(t, s, h)
		n.Key = blobs[k][which]
		expect(t, "the node's Put", node.Put(s, h, n), api.OK)
	}
	if rise(keys) {
		expectTree(t, s, x)
	} else {
		expectWrong(t, s, x.root)
	}
	if t.Failed() {
		t.Fatalf("keys %q", keys)
	}
}

// P11.1, P11.3: keys that fall, or are equal, next to each other and far apart: two nodes of a tree change their keys, or one has the text of another, or one just beyond it.
func TestKeysOutOfOrder(t *testing.T) {
	for _, p := range sevens() {
		g := newGrove(t, p)
		for k, h := range g.nodes {
			for i, from := range g.nodes {
				if i == k {
					continue
				}
				n, other := get(t, g.s, h), get(t, g.s, from)
				n.Key, other.Key = other.Key, n.Key
				with(t, g.s, from, other, func() { expectChanged(t, g, h, n) })
				g.expectText(t, h, g.pairs[i].Key)
				if i < k {
					g.expectText(t, h, "\x00")
					g.expectText(t, h, "")
				} else {
					g.expectText(t, h, g.pairs[i].Key+"\x00")
				}
			}
		}
		g.expectStill(t)
	}
}

// expectChanged lets a node be something else, of a tree that was not right ahead of this.
func expectChanged(t *testing.T, g grove, h api.Handle, n api.Node) {
	t.Helper()
	with(t, g.s, h, n, func() {
		if isRight(g.s, g.root) {
			t.Fatal("by the chapter's words it is right")
		}
		expectWrong(t, g.s, g.root)
	})
}

// expectText gives a node a key of that text, which is out of order there.
func (g grove) expectText(t *testing.T, h api.Handle, key string) {
	t.Helper()
	n := get(t, g.s, h)
	n.Key = put(t, g.s, key)
	g.expectWrongWith(t, h, n)
	expect(t, "Drop", blob.Drop(g.s, n.Key), api.OK)
}

// P11.1, P11.3: keys rise from each node to its sides, but not to what is below these.
func TestKeysFarApart(t *testing.T) {
	for _, c := range []struct {
		p    *shape
		keys []string // from the left on
	}{
		{&shape{&shape{nil, &shape{}}, nil}, []string{"b", "e", "d"}}, // d has b, which has e at the right
		{&shape{&shape{nil, &shape{}}, nil}, []string{"b", "d", "d"}}, // the same key again
		{&shape{nil, &shape{&shape{}, nil}}, []string{"d", "a", "f"}}, // d has f, which has a at the left
		{&shape{nil, &shape{&shape{}, nil}}, []string{"d", "d", "f"}}, // the same key again
		{&shape{&shape{nil, &shape{nil, &shape{}}}, nil}, []string{"a", "b", "z", "d"}},
		{&shape{nil, &shape{&shape{&shape{}, nil}, nil}}, []string{"m", "a", "n", "o"}},
		{&shape{&shape{nil, &shape{&shape{}, nil}}, &shape{}}, []string{"c", "b", "d", "e", "f"}},
	} {
		s := empty(t, 1280, 99, 9)
		x := plant(t, s, c.p, keyed(c.keys...))
		if isRight(s, x.root) {
			t.Fatalf("by the chapter's words it is right: %q", c.keys)
		}
		expectWrong(t, s, x.root)
	}
}

// P11.1: all ways to link three nodes to each other, to nothing, and to what is no node: Check tells what the chapter's words say.
func TestAllLinks(t *testing.T) {
	s := empty(t, 640, 99, 9)
	x := abc(t, s)
	to := append([]api.Handle{0, get(t, s, x.root).Val}, x.nodes...)
	right := 0
	for code := range 5 * 5 * 5 * 5 * 5 * 5 {
		rest := code
		for _, h := range x.nodes {
			n := get(t, s, h)
			n.Left, n.Right = to[rest%5], to[rest/5%5]
			rest /= 25
			expect(t, "the node's Put", node.Put(s, h, n), api.OK)
		}
		for _, h := range x.nodes {
			n := get(t, s, h)
			n.Size = plainSize(t, s, h, 4)
			expect(t, "the node's Put", node.Put(s, h, n), api.OK)
		}
		for _, root := range x.nodes {
			if isRight(s, root) {
				right++
				expectTree(t, s, x.below(t, s, root))
			} else if code%7 == 0 {
				expectWrong(t, s, root)
			} else {
				expect(t, "Check", Check(s, root), api.ErrForm)
			}
		}
		if t.Failed() {
			t.Fatalf("links %d", code)
		}
	}
	if right < 1000 {
		t.Errorf("only %d of these trees are right", right)
	}
}

// plainSize counts nodes down to a depth, those of no node as none.
func plainSize(t *testing.T, s *store.Store, h api.Handle, depth int) uint64 {
	t.Helper()
	n, e := node.Get(s, h)
	if e != api.OK || depth == 0 {
		return 0
	}
	return 1 + plainSize(t, s, n.Left, depth-1) + plainSize(t, s, n.Right, depth-1)
}

// below is the part of a tree, linked anew, that is reached from a root.
func (x tree) below(t *testing.T, s *store.Store, root api.Handle) tree {
	t.Helper()
	part := tree{root: root}
	var visit func(h api.Handle)
	visit = func(h api.Handle) {
		if h == 0 {
			return
		}
		n := get(t, s, h)
		visit(n.Left)
		part.nodes = append(part.nodes, h)
		part.pairs = append(part.pairs, x.pairs[slices.Index(x.nodes, h)])
		visit(n.Right)
	}
	visit(root)
	return part
}

// P1: nodes whose both sides are one and the same: there are more ways down than could ever be gone. All calls end.
func TestBothSidesAreOne(t *testing.T) {
	for _, sizeOf := range []func(k int) uint64{
		func(k int) uint64 { return 1<<(k+1) - 1 }, // as if each were a node of its own
		func(k int) uint64 { return uint64(k + 1) },
		func(k int) uint64 { return 1 },
		func(k int) uint64 { return 65536 },
		func(k int) uint64 { return top - uint64(k) },
	} {
		s := empty(t, 1<<14, 300, 9)
		var side api.Handle
		for k := range 70 {
			side = makeNode(t, s, api.Node{Key: put(t, s, string([]byte{byte(k)})), Val: put(t, s, ""), Left: side, Right: side, Size: sizeOf(k)})
			if k > 0 {
				expectWrong(t, s, side)
			}
		}
	}
}

// P1: ways that lead round for ever, by either side, by one node and by many, whatever the Sizes say. All calls end.
func TestWaysRound(t *testing.T) {
	for _, many := range []int{1, 2, 3, 50} {
		for _, size := range []uint64{0, 1, 2, uint64(many), 100, 65536, 65537, 1 << 32, 1 << 63, top} {
			for turn := range 4 {
				s := empty(t, 1<<14, 300, 9)
				expectWrong(t, s, ring(t, s, many, size, turn))
				if t.Failed() {
					t.Fatalf("a ring of %d, Size %d, turn %d", many, size, turn)
				}
			}
		}
	}
}

// ring makes nodes each of which has the next one at the left, at the right, by turns, or at both sides, and the last one the first one.
func ring(t *testing.T, s *store.Store, many int, size uint64, turn int) api.Handle {
	t.Helper()
	var row []api.Handle
	for k := range many {
		row = append(row, makeNode(t, s, api.Node{Key: put(t, s, string([]byte{'a' + byte(k)})), Val: put(t, s, ""), Size: size}))
	}
	for k, h := range row {
		n, next := get(t, s, h), row[(k+1)%many]
		if turn == 0 || turn == 3 || turn == 2 && k%2 == 0 {
			n.Left = next
		}
		if turn == 1 || turn == 3 || turn == 2 && k%2 == 1 {
			n.Right = next
		}
		expect(t, "the node's Put", node.Put(s, h, n), api.OK)
	}
	return row[0]
}

// P11.1, P11.3: what one node of a high tree has at fault, at its end, amid it, or at its root, is found.
func TestFaultsFarDown(t *testing.T) {
	const n = 150
	for _, p := range oddShapes(n) {
		s := empty(t, 1<<14, 999, 9)
		x := plant(t, s, p, numbers(n))
		for _, h := range []api.Handle{x.nodes[0], x.nodes[1], x.nodes[n/2], x.nodes[n-2], x.nodes[n-1], x.root} {
			for _, fault := range []func(n *api.Node){
				func(n *api.Node) { n.Size++ },
				func(n *api.Node) { n.Left = x.root },
				func(n *api.Node) { n.Right = h },
				func(n *api.Node) { n.Val = n.Key },
				func(n *api.Node) { n.Key = 0 },
				func(n *api.Node) { n.Val = x.root },
				func(n *api.Node) { n.Right = n.Key },
			} {
				n := get(t, s, h)
				fault(&n)
				with(t, s, h, n, func() { expectWrong(t, s, x.root) })
			}
		}
		expectTree(t, s, x)
	}
}

// P11.2, P11.3: the order of the errors: ErrNil, then what is wrong with the place or the tree; a refusal beside another one changes nothing.
func TestOrderOfErrors(t *testing.T) {
	g := newGrove(t, sevens()[4])
	for _, s := range noStores() { // beside a tree that is not right, and a place that there is not
		for _, root := range []api.Handle{g.form, g.dropped, top} {
			expect(t, "Check", Check(s, root), api.ErrNil)
			expect(t, "Free", Free(s, root), api.ErrNil)
			expectPairError(t, s, root, api.ErrNil)
			expectAt(t, s, root, -1, 0, api.ErrNil)
			expectAt(t, s, root, 7, 0, api.ErrNil)
		}
	}
	n := get(t, g.s, g.root)
	n.Left, n.Right = g.form, g.root // a tree that is not right, and a place that there is not
	with(t, g.s, g.root, n, func() {
		for _, k := range oddPlaces {
			expectAt(t, g.s, g.root, k, 0, api.ErrArg)
		}
	})
	g.expectStill(t)
}
