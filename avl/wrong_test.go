package avl

import (
	"slices"
	"strings"
	"testing"

	"loft/api"
	"loft/blob"
	"loft/node"
	"loft/store"
	"loft/walk"
)

// yard is a store with nodes for a tree, and with what there is beside it: an AVL tree and a node whose keys are above all of those, and records that are no nodes.
type yard struct {
	s *store.Store
	tree
	other   tree
	lone    api.Handle
	dropped api.Handle
	records []api.Handle // of all sorts but nodes
}

func newYard(t *testing.T, n int) yard {
	t.Helper()
	s := empty(t, 1<<15, 3*n+99, 9)
	y := yard{s: s, tree: loose(t, s, letters(n))}
	y.lone = loose(t, s, []api.Pair{{Key: "\xf0"}}).nodes[0]
	y.other = plant(t, s, least(3), []api.Pair{{Key: "\xf1"}, {Key: "\xf2"}, {Key: "\xf3"}, {Key: "\xf4"}})
	y.records = []api.Handle{record(t, s), record(t, s, 1, 1), record(t, s, 1, 2, 3, 4, 5), record(t, s, 1, 2, 3, 4, 5, 6, 7), put(t, s, "aa"), put(t, s, strings.Repeat("a", 41))}
	y.dropped = loose(t, s, []api.Pair{{Key: "\xf5"}}).nodes[0]
	expect(t, "Drop", node.Drop(s, y.dropped), api.OK)
	return y
}

// none are handles of no nodes.
func (y yard) none(t *testing.T) []api.Handle {
	t.Helper()
	row := append([]api.Handle{y.dropped, y.lone + gen1, y.lone - gen1, y.other.root + gen1, 9999 + gen1, get(t, y.s, y.lone).Key}, y.records...)
	return append(row, oddHandles...)
}

// change does something to the store, and holds that no record is made or dropped, and that none but nodes is another one; then nodes are what they were.
func (y yard) change(t *testing.T, f func()) {
	t.Helper()
	was := wordsOf(y.s)
	f()
	now := wordsOf(y.s)
	if len(now) != len(was) {
		t.Errorf("there are %d records, want %d", len(now), len(was))
	}
	for h, row := range was {
		if len(now[h]) != len(row) || len(row) != 6 && !slices.Equal(now[h], row) {
			t.Errorf("the record %x is %x, want %x", h, now[h], row)
		}
		for k := range row {
			expect(t, "the store's Put", y.s.Put(h, k, row[k]), api.OK)
		}
	}
}

// expectEnds holds that Join ends, tells a node or an error, and changes nothing if it tells an error.
func (y yard) expectEnds(t *testing.T, l, m, r api.Handle) {
	t.Helper()
	y.change(t, func() {
		was := y.s.Raw()
		root, e := Join(y.s, l, m, r)
		switch e {
		case api.OK:
			get(t, y.s, root)
		case api.ErrForm:
			expectRaw(t, y.s, was)
		}
		if e != api.OK && e != api.ErrForm || e == api.ErrForm && root != 0 {
			t.Errorf("Join(%x, %x, %x): %x, %d", l, m, r, root, e)
		}
		Check(y.s, root)
		Height(y.s, root)
	})
	if t.Failed() {
		t.Fatalf("Join(%x, %x, %x)", l, m, r)
	}
}

// expectNone holds that a tree is no AVL tree, and that all calls end.
func (y yard) expectNone(t *testing.T, root api.Handle) {
	t.Helper()
	if isAvl(y.s, root) {
		t.Fatalf("by the chapter's words %x is an AVL tree", root)
	}
	was := y.s.Raw()
	expect(t, "Check", Check(y.s, root), api.ErrForm)
	h := Height(y.s, root)
	expect(t, "Check", Check(y.s, root), api.ErrForm)
	if Height(y.s, root) != h || h < 0 {
		t.Errorf("Height is %d, then %d", h, Height(y.s, root))
	}
	expectRaw(t, y.s, was)
	other := y.other.root
	for _, p := range [][3]api.Handle{{root, y.lone, 0}, {0, y.lone, root}, {root, y.lone, other}, {other, y.lone, root}, {root, y.lone, root}, {root, root, 0}, {other, root, root}, {root, root, root}} {
		y.expectEnds(t, p[0], p[1], p[2])
	}
	expectRaw(t, y.s, was)
}

// expectNoneWith holds the same while a node is something else.
func (y yard) expectNoneWith(t *testing.T, root, h api.Handle, n api.Node) {
	t.Helper()
	was := get(t, y.s, h)
	set(t, y.s, h, n)
	y.expectNone(t, root)
	set(t, y.s, h, was)
	if t.Failed() {
		t.Fatalf("%x is %x, not %x", h, n, was)
	}
}

// expectNoneWhere holds it of each node of AVL trees of some shapes, where it is any of what is told.
func expectNoneWhere(t *testing.T, others func(y yard, k int, n api.Node) []api.Node) {
	t.Helper()
	row := slices.Concat(levelShapes(1), levelShapes(2), levelShapes(3)[:6], []*shape{full(3), least(4), turned(4).mirrored()})
	for _, p := range row {
		y := newYard(t, p.size())
		y.tree = y.wire(t, y.s, p)
		for k, h := range y.nodes {
			for _, n := range others(y, k, get(t, y.s, h)) {
				y.expectNoneWith(t, y.root, h, n)
			}
		}
		expectTree(t, y.s, y.tree)
		expectTree(t, y.s, y.other)
	}
}

// P12.1: no store is there, whatever is asked of it.
func TestNoStore(t *testing.T) {
	for k, s := range noStores() {
		for _, l := range append([]api.Handle{0, 1 + gen1}, oddHandles...) {
			expect(t, "Check", Check(s, l), api.ErrNil)
			if h := Height(s, l); h != 0 {
				t.Errorf("store %d: Height(%x): %d", k, l, h)
			}
			for _, p := range [][3]api.Handle{{0, l, 0}, {l, 0, 0}, {0, 0, l}, {l, l, l}, {0, l, l}, {l, l, 0}, {l, 0, l}} {
				if h, e := Join(s, p[0], p[1], p[2]); h != 0 || e != api.ErrNil {
					t.Errorf("store %d: Join(%x): %x, %d", k, p, h, e)
				}
			}
		}
	}
}

// P12.1: roots that name nothing, that were dropped, or that are no nodes'.
func TestWrongRoots(t *testing.T) {
	y := newYard(t, 7)
	y.tree = y.wire(t, y.s, full(3))
	for _, root := range y.none(t) {
		was := y.s.Raw()
		expect(t, "Check", Check(y.s, root), api.ErrForm)
		if h := Height(y.s, root); h != 0 {
			t.Errorf("Height(%x): %d", root, h)
		}
		expectRaw(t, y.s, was)
	}
	expectTree(t, y.s, y.tree)
}

// P12.2, P3 of the whole: an l, an m or an r that names nothing, that was dropped or that is no node's, and each two and all of them together: ErrForm, and all is as it was.
func TestJoinRefuses(t *testing.T) {
	for _, p := range []*shape{nil, full(1), least(4), full(3)} {
		y := newYard(t, p.size())
		y.tree = y.wire(t, y.s, p)
		was := y.s.Raw()
		refuse := func(l, m, r api.Handle) {
			if root, e := Join(y.s, l, m, r); root != 0 || e != api.ErrForm {
				t.Errorf("Join(%x, %x, %x): %x, %d", l, m, r, root, e)
			}
			expectRaw(t, y.s, was)
		}
		none := y.none(t)
		for k, no := range none {
			nay := none[(k+1)%len(none)]
			for _, sides := range [][2]api.Handle{{0, 0}, {y.root, 0}, {0, y.root}, {y.root, y.other.root}, {y.other.root, y.root}} {
				l, r := sides[0], sides[1]
				refuse(l, no, r)
				refuse(l, 0, r)
				refuse(no, y.lone, r)
				refuse(l, y.lone, no)
				refuse(no, nay, r)
				refuse(l, no, nay)
				refuse(no, 0, r)
				refuse(l, 0, no)
			}
			refuse(no, y.lone, nay)
			refuse(no, nay, no)
			refuse(no, 0, no)
			refuse(no, no, no)
		}
	}
}

// P12.1: a Mark that is not the height.
func TestWrongMarks(t *testing.T) {
	expectNoneWhere(t, func(y yard, k int, n api.Node) (row []api.Node) {
		is := n.Mark
		for _, mark := range append([]uint64{is - 1, is + 1, is + 2, 2 * is, -is, is + 1<<16, is + 1<<32, is + 1<<63}, oddWords...) {
			if n.Mark = mark; mark != is {
				row = append(row, n)
			}
		}
		return row
	})
}

// P12.1: each Mark is 1 and the greater of its sides', but that of one node without sides, or of all of these, is another one than 1.
func TestMarksThatAgreeAllButOne(t *testing.T) {
	for _, p := range slices.Concat(levelShapes(1), levelShapes(2), levelShapes(3), []*shape{least(4), full(4), turned(5)}) {
		y := newYard(t, p.size())
		y.tree = y.wire(t, y.s, p)
		for _, mark := range oddWords {
			if mark == 1 {
				continue
			}
			for k, leaf := range y.nodes {
				if n := get(t, y.s, leaf); n.Left != 0 || n.Right != 0 {
					continue
				}
				y.wire(t, y.s, p)
				remark(t, y.s, y.root, func(h api.Handle) uint64 {
					if h == leaf || k == 0 {
						return mark
					}
					return 1
				})
				y.expectNone(t, y.root)
			}
		}
	}
}

// remark makes each Mark 1 and the greater of its sides'; those of nodes without sides are told.
func remark(t *testing.T, s *store.Store, h api.Handle, leaf func(h api.Handle) uint64) uint64 {
	t.Helper()
	if h == 0 {
		return 0
	}
	n := get(t, s, h)
	if n.Left == 0 && n.Right == 0 {
		n.Mark = leaf(h)
	} else {
		n.Mark = 1 + max(remark(t, s, n.Left, leaf), remark(t, s, n.Right, leaf))
	}
	set(t, s, h, n)
	return n.Mark
}

// P12.1: sides that are apart by two and more, at the root or deep below it alone, with every Mark right.
func TestSidesApart(t *testing.T) {
	r := thrower(6)
	for high := 2; high <= 7; high++ {
		for low := range high - 1 {
			p := &shape{r.levelShape(high), r.levelShape(low)}
			for range high % 3 {
				p = &shape{full(p.height()), p}
			}
			for _, q := range []*shape{p, p.mirrored()} {
				if q.size() > 150 {
					continue
				}
				y := newYard(t, q.size())
				y.expectNone(t, y.wire(t, y.s, q).root)
			}
		}
	}
	for n := 3; n < 40; n++ {
		y := newYard(t, n)
		y.expectNone(t, y.wire(t, y.s, chain(n, true)).root)
		y.expectNone(t, y.wire(t, y.s, chain(n, false)).root)
	}
}

// P12.1: sides that are apart by two, with Marks as if they were not.
func TestSidesApartWithMarksThatHideIt(t *testing.T) {
	for _, mark := range []uint64{1, 2, 3} {
		for _, toLeft := range []bool{true, false} {
			y := newYard(t, 3)
			y.tree = y.wire(t, y.s, chain(3, toLeft))
			for _, h := range y.nodes {
				n := get(t, y.s, h)
				n.Mark = mark
				y.expectNoneWith(t, y.root, h, n)
			}
			for _, h := range y.nodes {
				n := get(t, y.s, h)
				n.Mark = min(n.Mark, 2)
				set(t, y.s, h, n)
			}
			y.expectNone(t, y.root)
		}
	}
}

// P12.1: a Size that is not that of the sides and 1.
func TestWrongSizes(t *testing.T) {
	expectNoneWhere(t, func(y yard, k int, n api.Node) (row []api.Node) {
		is := n.Size
		for _, size := range append([]uint64{is - 1, is + 1, 2 * is, -is, is + 1<<32}, oddWords...) {
			if n.Size = size; size != is {
				row = append(row, n)
			}
		}
		return row
	})
}

// P12.1: a Key or a Val that is no blob, or another node's.
func TestWrongBlobs(t *testing.T) {
	expectNoneWhere(t, func(y yard, k int, n api.Node) (row []api.Node) {
		for _, h := range append([]api.Handle{0, y.dropped, y.root, y.lone, y.records[0], y.records[1], 1, 1 << 63}, y.nodes...) {
			other := n
			other.Key = h
			row = append(row, other)
			other = n
			other.Val = h
			row = append(row, other)
		}
		row = append(row, api.Node{Key: n.Val, Val: n.Val, Left: n.Left, Right: n.Right, Mark: n.Mark, Size: n.Size})
		if len(y.nodes) == 1 {
			return row
		}
		other := get(t, y.s, y.nodes[(k+1)%len(y.nodes)])
		n.Val = other.Val
		return append(row, n)
	})
}

// P12.1: keys that do not rise: two nodes have each other's, or the same text.
func TestWrongKeys(t *testing.T) {
	for _, p := range slices.Concat(levelShapes(2), levelShapes(3), []*shape{least(4)}) {
		y := newYard(t, p.size())
		y.tree = y.wire(t, y.s, p)
		for k, h := range y.nodes {
			for _, from := range y.nodes[:k] {
				a, b := get(t, y.s, h), get(t, y.s, from)
				a.Key, b.Key = b.Key, a.Key
				set(t, y.s, from, b)
				y.expectNoneWith(t, y.root, h, a)
				a.Key, b.Key = b.Key, a.Key
				set(t, y.s, from, b)
				a.Key = put(t, y.s, y.pairs[slices.Index(y.nodes, from)].Key)
				y.expectNoneWith(t, y.root, h, a)
				expect(t, "Drop", blob.Drop(y.s, a.Key), api.OK)
			}
		}
		expectTree(t, y.s, y.tree)
	}
}

// P1 of the whole, P12.1: a side that is no node, or that is the node's own self, one above it, one of another part, or of another tree.
func TestWrongSides(t *testing.T) {
	right := 0
	expectNoneWhere(t, func(y yard, k int, n api.Node) (row []api.Node) {
		none := y.none(t)
		for _, side := range slices.Concat(none[k%3:k%3+12], y.nodes, []api.Handle{y.lone, y.other.root}) {
			for _, sides := range [][2]api.Handle{{side, n.Right}, {n.Left, side}, {side, side}} {
				other := n
				other.Left, other.Right = sides[0], sides[1]
				was := get(t, y.s, y.nodes[k])
				for _, size := range []uint64{n.Size, uint64(1 + walk.Size(y.s, other.Left) + walk.Size(y.s, other.Right))} {
					if other.Size = size; other == n {
						continue
					}
					set(t, y.s, y.nodes[k], other)
					if isAvl(y.s, y.root) { // a side's side in its place, say
						expect(t, "Check", Check(y.s, y.root), api.OK)
						right++
					} else {
						row = append(row, other)
					}
					set(t, y.s, y.nodes[k], was)
				}
			}
		}
		return row
	})
	if right < 10 {
		t.Errorf("this tries too little: %d others are AVL trees", right)
	}
}

// P1 of the whole: three nodes that have each other for sides in all ways, with Marks of all sorts.
func TestAllLinksOfThreeNodes(t *testing.T) {
	y := newYard(t, 3)
	row := append([]api.Handle{0}, y.nodes...)
	marks := [][3]uint64{{1, 1, 1}, {1, 2, 3}, {3, 1, 2}, {3, 2, 1}, {0, 0, 0}, {5, 4, 3}, {3, 4, 5}, {9, 0, 4}, {top, 5, 2}, {65536, 65535, 65534}, {2, top, top - 1}, {1, 3, 1}}
	rights := 0
	for k := range 4096 {
		for i, h := range y.nodes {
			n := get(t, y.s, h)
			n.Left, n.Right = row[k>>(4*i)%4], row[k>>(4*i+2)%4]
			n.Mark, n.Size = marks[k%len(marks)][i], 1+n.Mark%3
			set(t, y.s, h, n)
		}
		for i, h := range y.nodes {
			if isAvl(y.s, h) {
				rights++
				expect(t, "Check", Check(y.s, h), api.OK)
			} else {
				expect(t, "Check", Check(y.s, h), api.ErrForm)
			}
			y.expectEnds(t, h, y.lone, row[(k+i)%4])
			y.expectEnds(t, row[k/4%4], h, row[(k/16+i)%4])
			y.expectEnds(t, y.other.root, y.nodes[k%3], h)
		}
	}
	if rights < 10 {
		t.Errorf("this tries too little: %d AVL trees", rights)
	}
}

// P1 of the whole, P12.2: trees that have nodes together, m among them.
func TestTreesThatShareNodes(t *testing.T) {
	for _, p := range slices.Concat(levelShapes(1), levelShapes(2), levelShapes(3)[:4], []*shape{full(3), least(5), turned(5)}) {
		y := newYard(t, p.size())
		y.tree = y.wire(t, y.s, p)
		for _, a := range y.nodes {
			for _, b := range append([]api.Handle{0, y.lone, y.other.root}, y.nodes...) {
				for _, m := range []api.Handle{y.lone, a, y.root, y.nodes[0]} {
					y.expectEnds(t, a, m, b)
					y.expectEnds(t, b, m, a)
				}
			}
		}
		expectTree(t, y.s, y.tree)
	}
}

// P12.2: keys that are in another order: no record is made or dropped.
func TestJoinOfOtherOrders(t *testing.T) {
	for _, p := range []*shape{nil, full(1), least(3), full(3), least(5)} {
		y := newYard(t, p.size())
		y.tree = y.wire(t, y.s, p)
		y.expectEnds(t, y.other.root, y.lone, y.root)
		y.expectEnds(t, y.lone, y.other.nodes[0], y.root)
		y.expectEnds(t, y.root, y.other.root, y.lone)
	}
}

// P1 of the whole: trees as high as they have nodes, with Marks that fall, rise, and stay.
func TestHighTrees(t *testing.T) {
	const n = 2000
	s := empty(t, api.MaxQuota, 3*n+9, 9)
	x := loose(t, s, numbers(n-1))
	m := loose(t, s, numbers(n)[n-1:]).nodes[0]
	was := recordsOf(s)
	for _, toLeft := range []bool{true, false} {
		for _, mark := range []func(is uint64) uint64{
			func(is uint64) uint64 { return is },
			func(is uint64) uint64 { return n - is },
			func(is uint64) uint64 { return 7 },
			func(is uint64) uint64 { return top - is },
			func(is uint64) uint64 { return 65536 - n + is },
		} {
			for _, l := range []bool{true, false} {
				y := x.wire(t, s, chain(n-1, toLeft))
				for _, h := range y.nodes {
					n := get(t, s, h)
					n.Mark = mark(n.Mark)
					set(t, s, h, n)
				}
				expect(t, "Check", Check(s, y.root), api.ErrForm)
				if l {
					Join(s, y.root, m, 0)
				} else {
					Join(s, 0, m, y.root)
				}
				if now := recordsOf(s); len(now) != len(was) {
					t.Errorf("%d records, want %d", len(now), len(was))
				}
			}
		}
	}
}
