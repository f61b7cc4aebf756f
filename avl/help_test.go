package avl

import (
	"math"
	"slices"
	"strings"
	"testing"

	"loft/api"
	"loft/blob"
	"loft/node"
	"loft/store"
	"loft/walk"
)

// gen1 is what the first generation adds to a slot's number.
const gen1 = api.Handle(1) << 32

// top is as great as a word goes.
const top = math.MaxUint64

// oddHandles are handles of no record: of slot 0, of generation 0, of slots that none may have. (0 itself is no tree's fault: it is the tree that has nothing.)
var oddHandles = []api.Handle{1, 2, 65536, 65537, 1<<32 - 1, 1 << 32, 2 << 32, 1<<32 + 65537, 1<<33 - 1, 1<<32 + 1<<31, 1 << 63, 1<<64 - 1<<32, top}

// oddWords are what a Mark, or a Size, may be said to be.
var oddWords = []uint64{0, 1, 2, 3, 4, 5, 6, 14, 255, 256, 65535, 65536, 65537, 1<<31 - 1, 1 << 31, 1 << 32, 1<<32 + 1, 1<<63 - 1, 1 << 63, 1<<63 + 2, top - 2, top - 1, top}

// noStores are stores that are not there, or that nobody made.
func noStores() []*store.Store {
	refused, _ := store.New(-1, 1, 1)
	form, _ := store.Of(api.Raw{Quota: 64, Most: 1, Last: 1, Pages: []api.Page{{}}})
	return []*store.Store{nil, {}, refused, form}
}

func empty(t *testing.T, quota, slots int, last uint32) *store.Store {
	t.Helper()
	s, e := store.New(quota, slots, last)
	if s == nil || e != api.OK {
		t.Fatalf("a store of %d words, %d slots: %v, %d", quota, slots, s, e)
	}
	return s
}

// storeOf makes a store of a raw.
func storeOf(t *testing.T, r api.Raw) *store.Store {
	t.Helper()
	s, e := store.Of(r)
	if s == nil || e != api.OK {
		t.Fatalf("a store of a raw: %v, %d", s, e)
	}
	return s
}

func expect(t *testing.T, what string, got, want api.Errno) {
	t.Helper()
	if got != want {
		t.Errorf("%s: %d, want %d", what, got, want)
	}
}

// sameRaw tells whether two stores are the same to the last word.
func sameRaw(a, b api.Raw) bool {
	return a.Quota == b.Quota && a.Most == b.Most && a.Last == b.Last && slices.Equal(a.Pages, b.Pages) && slices.Equal(a.Slots, b.Slots)
}

func expectRaw(t *testing.T, s *store.Store, want api.Raw) {
	t.Helper()
	if !sameRaw(s.Raw(), want) {
		t.Errorf("the store is another one: %d records, %d words", len(s.All()), s.Words())
	}
}

// record makes one of words, by the store alone.
func record(t *testing.T, s *store.Store, words ...uint64) api.Handle {
	t.Helper()
	h, e := s.Make(len(words))
	if h == 0 || e != api.OK {
		t.Fatalf("the store's Make(%d): %x, %d", len(words), h, e)
	}
	for k, w := range words {
		expect(t, "the store's Put", s.Put(h, k, w), api.OK)
	}
	return h
}

func put(t *testing.T, s *store.Store, x string) api.Handle {
	t.Helper()
	h, e := blob.Put(s, x)
	if h == 0 || e != api.OK {
		t.Fatalf("a blob of %d bytes: %x, %d", len(x), h, e)
	}
	return h
}

func makeNode(t *testing.T, s *store.Store, n api.Node) api.Handle {
	t.Helper()
	h, e := node.Make(s, n)
	if h == 0 || e != api.OK {
		t.Fatalf("a node: %x, %d", h, e)
	}
	return h
}

func get(t *testing.T, s *store.Store, h api.Handle) api.Node {
	t.Helper()
	n, e := node.Get(s, h)
	if e != api.OK {
		t.Fatalf("there is no node %x: %d", h, e)
	}
	return n
}

func set(t *testing.T, s *store.Store, h api.Handle, n api.Node) {
	t.Helper()
	expect(t, "the node's Put", node.Put(s, h, n), api.OK)
}

// wordsOf are all records of a store, each with its words.
func wordsOf(s *store.Store) map[api.Handle][]uint64 {
	all := map[api.Handle][]uint64{}
	for _, h := range s.All() {
		n, _ := s.Len(h)
		row := make([]uint64, n)
		for k := range row {
			row[k], _ = s.Get(h, k)
		}
		all[h] = row
	}
	return all
}

// shape is a tree without texts.
type shape struct{ left, right *shape }

func (p *shape) size() int {
	if p == nil {
		return 0
	}
	return 1 + p.left.size() + p.right.size()
}

func (p *shape) height() int {
	if p == nil {
		return 0
	}
	return 1 + max(p.left.height(), p.right.height())
}

// isLevel tells whether all sides are apart by at most 1.
func (p *shape) isLevel() bool {
	if p == nil {
		return true
	}
	apart := p.left.height() - p.right.height()
	return -1 <= apart && apart <= 1 && p.left.isLevel() && p.right.isLevel()
}

func (p *shape) mirrored() *shape {
	if p == nil {
		return nil
	}
	return &shape{p.right.mirrored(), p.left.mirrored()}
}

// shapes are all trees of n nodes.
func shapes(n int) []*shape {
	if n == 0 {
		return []*shape{nil}
	}
	var row []*shape
	for k := range n {
		for _, l := range shapes(k) {
			for _, r := range shapes(n - 1 - k) {
				row = append(row, &shape{l, r})
			}
		}
	}
	return row
}

// levelShapes are all AVL trees of a height.
func levelShapes(h int) []*shape {
	if h == 0 {
		return []*shape{nil}
	}
	var row []*shape
	for _, sides := range [][2]int{{h - 1, h - 1}, {h - 1, h - 2}, {h - 2, h - 1}} {
		if sides[0] < 0 || sides[1] < 0 {
			continue
		}
		for _, l := range levelShapes(sides[0]) {
			for _, r := range levelShapes(sides[1]) {
				row = append(row, &shape{l, r})
			}
		}
	}
	return row
}

// least is the AVL tree of a height that has the fewest nodes, the higher sides at the left.
func least(h int) *shape {
	if h <= 0 {
		return nil
	}
	return &shape{least(h - 1), least(h - 2)}
}

// turned is the same, the higher sides by turns at the left and at the right.
func turned(h int) *shape {
	if h <= 0 {
		return nil
	}
	return &shape{turned(h - 1).mirrored(), turned(h - 2)}
}

// full is the one that has the most nodes.
func full(h int) *shape {
	if h <= 0 {
		return nil
	}
	return &shape{full(h - 1), full(h - 1)}
}

// chain is a tree of n nodes that goes to one side alone.
func chain(n int, toLeft bool) *shape {
	var p *shape
	for range n {
		if toLeft {
			p = &shape{p, nil}
		} else {
			p = &shape{nil, p}
		}
	}
	return p
}

// fewest is the chapter's F: how many nodes an AVL tree of a height has at least.
func fewest(h int) int {
	if h <= 1 {
		return h
	}
	return fewest(h-1) + fewest(h-2) + 1
}

// highest is how high an AVL tree of n nodes may be.
func highest(n int) int {
	h := 0
	for fewest(h+1) <= n {
		h++
	}
	return h
}

// tree is one that is in a store: its root, its pairs from the left, and their nodes.
type tree struct {
	root  api.Handle
	pairs []api.Pair
	nodes []api.Handle
}

// part is what has some of the nodes of a tree.
func (x tree) part(from, to int) tree {
	return tree{pairs: x.pairs[from:to], nodes: x.nodes[from:to]}
}

// loose makes nodes of pairs that are in no tree, and are none of their own either.
func loose(t *testing.T, s *store.Store, pairs []api.Pair) tree {
	t.Helper()
	x := tree{pairs: pairs}
	for k, p := range pairs {
		n := api.Node{Key: put(t, s, p.Key), Val: put(t, s, p.Val), Mark: uint64(7 + k), Size: uint64(70 + k)}
		x.nodes = append(x.nodes, makeNode(t, s, n))
	}
	return x
}

// wire makes a tree of a shape of loose nodes, with Marks and Sizes as an AVL tree has them.
func (x tree) wire(t *testing.T, s *store.Store, p *shape) tree {
	t.Helper()
	if p.size() != len(x.nodes) {
		t.Fatalf("a shape of %d, and %d nodes", p.size(), len(x.nodes))
	}
	if p == nil {
		return x
	}
	at := p.left.size()
	n := get(t, s, x.nodes[at])
	n.Left = x.part(0, at).wire(t, s, p.left).root
	n.Right = x.part(at+1, len(x.nodes)).wire(t, s, p.right).root
	n.Mark, n.Size = uint64(p.height()), uint64(p.size())
	x.root = x.nodes[at]
	set(t, s, x.root, n)
	return x
}

// plant makes a tree of a shape, with these pairs from the left on.
func plant(t *testing.T, s *store.Store, p *shape, pairs []api.Pair) tree {
	t.Helper()
	return loose(t, s, pairs).wire(t, s, p)
}

// letters are n keys of one byte, each with a value.
func letters(n int) []api.Pair {
	var row []api.Pair
	for k := range n {
		key := string([]byte{byte('a' + k)})
		row = append(row, api.Pair{Key: key, Val: "v" + key})
	}
	return row
}

// numbers are n keys of two bytes and more, some of them the beginnings of the next ones.
func numbers(n int) []api.Pair {
	var row []api.Pair
	for k := range n {
		key := string([]byte{byte(k >> 8), byte(k)})
		if k%3 == 2 {
			key = row[k-1].Key + strings.Repeat("\x00", 1+k%40)
		}
		row = append(row, api.Pair{Key: key, Val: strings.Repeat("v", k%9)})
	}
	return row
}

// listed are the nodes of a tree from the left on, as the nodes' sides alone tell them.
func listed(s *store.Store, root api.Handle) []api.Handle {
	n, e := node.Get(s, root)
	if e != api.OK {
		return nil
	}
	return append(append(listed(s, n.Left), root), listed(s, n.Right)...)
}

// heightOf is a tree's, as the nodes' sides alone tell it.
func heightOf(s *store.Store, root api.Handle) int {
	n, e := node.Get(s, root)
	if e != api.OK {
		return 0
	}
	return 1 + max(heightOf(s, n.Left), heightOf(s, n.Right))
}

// isAvl tells whether a tree is one, by the chapter's words alone. (Whether it is right is layer 11's.)
func isAvl(s *store.Store, root api.Handle) bool {
	if walk.Check(s, root) != api.OK {
		return false
	}
	for _, h := range listed(s, root) {
		n, _ := node.Get(s, h)
		l, r := heightOf(s, n.Left), heightOf(s, n.Right)
		if n.Mark != uint64(1+max(l, r)) || max(l, r)-min(l, r) > 1 {
			return false
		}
	}
	return true
}

// expectTree holds all that an AVL tree answers, and that asking changes nothing.
func expectTree(t *testing.T, s *store.Store, x tree) {
	t.Helper()
	was := s.Raw()
	if l := listed(s, x.root); !slices.Equal(l, x.nodes) {
		t.Errorf("the nodes are %x, want %x", l, x.nodes)
	}
	if !isAvl(s, x.root) {
		t.Error("by the chapter's words it is no AVL tree")
	}
	expect(t, "Check", Check(s, x.root), api.OK)
	h := heightOf(s, x.root)
	if got := Height(s, x.root); got != h || h > highest(len(x.nodes)) {
		t.Errorf("Height of %d nodes: %d, want %d", len(x.nodes), got, h)
	}
	for k, at := range x.nodes {
		if p, e := walk.Pair(s, at); p != x.pairs[k] || e != api.OK {
			t.Errorf("the node %x has %q, %d; want %q", at, p, e, x.pairs[k])
		}
	}
	if n := walk.Size(s, x.root); n != len(x.nodes) {
		t.Errorf("the Size is %d, want %d", n, len(x.nodes))
	}
	expectRaw(t, s, was)
}

// join joins two trees and a node, and holds all that is promised of it.
func join(t *testing.T, s *store.Store, l tree, m tree, r tree) tree {
	t.Helper()
	x := tree{pairs: slices.Concat(l.pairs, m.pairs, r.pairs), nodes: slices.Concat(l.nodes, m.nodes, r.nodes)}
	was, all := wordsOf(s), s.All()
	high := max(heightOf(s, l.root), heightOf(s, r.root))
	var e api.Errno
	if x.root, e = Join(s, l.root, m.nodes[0], r.root); e != api.OK {
		t.Fatalf("Join(%x, %x, %x): %d", l.root, m.nodes[0], r.root, e)
	}
	if !slices.Equal(s.All(), all) {
		t.Errorf("Join leaves the records %x, want %x", s.All(), all)
	}
	if now := heightOf(s, x.root); now != high && now != high+1 {
		t.Errorf("the height is %d, that of the higher one was %d", now, high)
	}
	expectTree(t, s, x)
	expectOnlySides(t, s, was, x.nodes)
	return x
}

// expectOnlySides holds that all records are as they were, but that these nodes may have other sides, Marks and Sizes.
func expectOnlySides(t *testing.T, s *store.Store, was map[api.Handle][]uint64, nodes []api.Handle) {
	t.Helper()
	now := wordsOf(s)
	for _, h := range nodes {
		for k := 2; k < 6; k++ {
			was[h][k], now[h][k] = 0, 0
		}
	}
	if len(now) != len(was) {
		t.Errorf("there are %d records, want %d", len(now), len(was))
	}
	for h, row := range was {
		if !slices.Equal(now[h], row) {
			t.Errorf("the record %x is %x, want %x", h, now[h], row)
		}
	}
}

// junk are what a node may be ahead of its being joined, its Key and Val aside.
func junk(l, m, r api.Handle) []api.Node {
	return []api.Node{
		{},
		{Left: l, Right: r, Mark: 1, Size: 1},
		{Left: r, Right: l, Mark: top, Size: top},
		{Left: m, Right: m, Mark: 99, Size: 1},
		{Left: 1 << 63, Right: 5, Mark: top - 1, Size: 0},
		{Left: top, Right: top, Mark: 65536, Size: 65536},
	}
}

// spoil lets a node be something else, but for its Key and its Val.
func spoil(t *testing.T, s *store.Store, h api.Handle, other api.Node) {
	t.Helper()
	is := get(t, s, h)
	other.Key, other.Val = is.Key, is.Val
	set(t, s, h, other)
}

// recordsOf are the names and lengths of all records.
func recordsOf(s *store.Store) map[api.Handle]int {
	all := map[api.Handle]int{}
	for _, h := range s.All() {
		all[h], _ = s.Len(h)
	}
	return all
}

// thrower throws numbers, the same ones in every run.
type thrower uint64

func (r *thrower) next() uint64 {
	x := uint64(*r)
	x ^= x << 13
	x ^= x >> 7
	x ^= x << 17
	*r = thrower(x)
	return x
}

// below throws a number from 0 to n - 1.
func (r *thrower) below(n int) int {
	return int(r.next() >> 11 % uint64(n))
}

// levelShape throws an AVL tree of a height.
func (r *thrower) levelShape(h int) *shape {
	if h <= 0 {
		return nil
	}
	low := max(0, h-1-r.below(2))
	p := &shape{r.levelShape(h - 1), r.levelShape(low)}
	if r.below(2) == 0 {
		p.left, p.right = p.right, p.left
	}
	return p
}
