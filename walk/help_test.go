package walk

import (
	"maps"
	"math"
	"slices"
	"strings"
	"testing"

	"loft/api"
	"loft/blob"
	"loft/node"
	"loft/store"
)

// gen1 is what the first generation adds to a slot's number.
const gen1 = api.Handle(1) << 32

// top is as great as a word goes.
const top = math.MaxUint64

// oddHandles are handles of no record: of slot 0, of generation 0, of slots that none may have. (0 itself is no tree's fault: it is the tree that has nothing.)
var oddHandles = []api.Handle{1, 2, 65536, 65537, 1<<32 - 1, 1 << 32, 2 << 32, 1<<32 + 65537, 1<<33 - 1, 1<<32 + 1<<31, 1 << 63, 1<<64 - 1<<32, top}

// oddPlaces are places that no tree has.
var oddPlaces = []int{-1, -2, -64, -1 << 31, -1 << 32, math.MinInt, math.MinInt + 1, 65536, 1 << 31, 1 << 32, 1<<32 + 1, math.MaxInt - 1, math.MaxInt}

// noStores are stores that are not there, or that nobody made.
func noStores() []*store.Store {
	refused, _ := store.New(-1, 1, 1)
	form, _ := store.Of(api.Raw{Quota: 64, Most: 1, Last: 1, Pages: []api.Page{{}}})
	return []*store.Store{nil, {}, refused, form}
}

func empty(t *testing.T, quota, slots int, last uint32) *store.Store {
	t.Helper()
	s, e := store.New(quota, slots, last)
	if s == nil || e != api.OK {
		t.Fatalf("a store of %d words, %d slots: %v, %d", quota, slots, s, e)
	}
	return s
}

// storeOf makes a store of a raw.
func storeOf(t *testing.T, r api.Raw) *store.Store {
	t.Helper()
	s, e := store.Of(r)
	if s == nil || e != api.OK {
		t.Fatalf("a store of a raw: %v, %d", s, e)
	}
	return s
}

func expect(t *testing.T, what string, got, want api.Errno) {
	t.Helper()
	if got != want {
		t.Errorf("%s: %d, want %d", what, got, want)
	}
}

// sameRaw tells whether two stores are the same to the last word.
func sameRaw(a, b api.Raw) bool {
	return a.Quota == b.Quota && a.Most == b.Most && a.Last == b.Last && slices.Equal(a.Pages, b.Pages) && slices.Equal(a.Slots, b.Slots)
}

func expectRaw(t *testing.T, s *store.Store, want api.Raw) {
	t.Helper()
	if !sameRaw(s.Raw(), want) {
		t.Errorf("the store is another one: %d records, %d words", len(s.All()), s.Words())
	}
}

// record makes one of words, by the store alone.
func record(t *testing.T, s *store.Store, words ...uint64) api.Handle {
	t.Helper()
	h, e := s.Make(len(words))
	if h == 0 || e != api.OK {
		t.Fatalf("the store's Make(%d): %x, %d", len(words), h, e)
	}
	for k, w := range words {
		expect(t, "the store's Put", s.Put(h, k, w), api.OK)
	}
	return h
}

func put(t *testing.T, s *store.Store, x string) api.Handle {
	t.Helper()
	h, e := blob.Put(s, x)
	if h == 0 || e != api.OK {
		t.Fatalf("a blob of %d bytes: %x, %d", len(x), h, e)
	}
	return h
}

func makeNode(t *testing.T, s *store.Store, n api.Node) api.Handle {
	t.Helper()
	h, e := node.Make(s, n)
	if h == 0 || e != api.OK {
		t.Fatalf("a node: %x, %d", h, e)
	}
	return h
}

func get(t *testing.T, s *store.Store, h api.Handle) api.Node {
	t.Helper()
	n, e := node.Get(s, h)
	if e != api.OK {
		t.Fatalf("there is no node %x: %d", h, e)
	}
	return n
}

// with lets a node be something else while f runs.
func with(t *testing.T, s *store.Store, h api.Handle, n api.Node, f func()) {
	t.Helper()
	was := get(t, s, h)
	expect(t, "the node's Put", node.Put(s, h, n), api.OK)
	f()
	expect(t, "the node's Put", node.Put(s, h, was), api.OK)
}

// wordsOf are all records of a store, each with its words.
func wordsOf(s *store.Store) map[api.Handle][]uint64 {
	all := map[api.Handle][]uint64{}
	for _, h := range s.All() {
		n, _ := s.Len(h)
		row := make([]uint64, n)
		for k := range row {
			row[k], _ = s.Get(h, k)
		}
		all[h] = row
	}
	return all
}

// shape is a tree without texts.
type shape struct{ left, right *shape }

func (p *shape) size() int {
	if p == nil {
		return 0
	}
	return 1 + p.left.size() + p.right.size()
}

// shapes are all trees of n nodes.
func shapes(n int) []*shape {
	if n == 0 {
		return []*shape{nil}
	}
	var row []*shape
	for k := range n {
		for _, l := range shapes(k) {
			for _, r := range shapes(n - 1 - k) {
				row = append(row, &shape{l, r})
			}
		}
	}
	return row
}

// shaped is a tree of n nodes of which pick tells how many a node has at its left side, of so many at both.
func shaped(n int, pick func(both int) int) *shape {
	if n == 0 {
		return nil
	}
	k := pick(n - 1)
	return &shape{shaped(k, pick), shaped(n-1-k, pick)}
}

// oddShapes are trees of n nodes: to the left alone, to the right alone, to both by turns, two at a time, and in the middle.
func oddShapes(n int) []*shape {
	return []*shape{
		shaped(n, func(both int) int { return both }),
		shaped(n, func(both int) int { return 0 }),
		shaped(n, func(both int) int { return both % 2 * both }),
		shaped(n, func(both int) int { return both / 2 % 2 * both }),
		shaped(n, func(both int) int { return both / 2 }),
		shaped(n, func(both int) int { return min(1, both) }),
	}
}

// tree is one that is in a store: its root, its pairs from the left, and their nodes.
type tree struct {
	root  api.Handle
	pairs []api.Pair
	nodes []api.Handle
}

// plant makes the nodes of a shape, with these pairs from the left on.
func plant(t *testing.T, s *store.Store, p *shape, pairs []api.Pair) tree {
	t.Helper()
	x := tree{pairs: pairs, nodes: make([]api.Handle, len(pairs))}
	x.root = x.plant(t, s, p, 0)
	return x
}

// plant makes those from the pair first on.
func (x tree) plant(t *testing.T, s *store.Store, p *shape, first int) api.Handle {
	t.Helper()
	if p == nil {
		return 0
	}
	at := first + p.left.size()
	n := api.Node{Mark: uint64(at), Size: uint64(p.size())}
	n.Left = x.plant(t, s, p.left, first)
	n.Key = put(t, s, x.pairs[at].Key)
	n.Right = x.plant(t, s, p.right, at+1)
	n.Val = put(t, s, x.pairs[at].Val)
	x.nodes[at] = makeNode(t, s, n)
	return x.nodes[at]
}

// records are all that a tree has.
func (x tree) records(t *testing.T, s *store.Store) []api.Handle {
	t.Helper()
	var row []api.Handle
	for _, h := range x.nodes {
		n := get(t, s, h)
		row = append(row, h, n.Key, n.Val)
	}
	return row
}

// keyed are pairs of keys, each with a value of its own.
func keyed(keys ...string) []api.Pair {
	var row []api.Pair
	for _, k := range keys {
		row = append(row, api.Pair{Key: k, Val: "v" + k})
	}
	return row
}

// letters are n keys of one letter.
func letters(n int) []api.Pair {
	var row []string
	for k := range n {
		row = append(row, string([]byte{byte('a' + k)}))
	}
	return keyed(row...)
}

// numbers are n keys, the later ones of more bytes.
func numbers(n int) []api.Pair {
	var row []string
	for k := range n {
		row = append(row, strings.Repeat("k", k/26)+string([]byte{byte('l' + k%13), byte(k)}))
	}
	slices.SortFunc(row, plainCompare)
	return keyed(slices.Compact(row)...)
}

// plainCompare holds texts against each other byte by byte.
func plainCompare(a, b string) int {
	for k := range min(len(a), len(b)) {
		if a[k] != b[k] {
			return int(a[k]) - int(b[k])
		}
	}
	return len(a) - len(b)
}

// plainRank tells how many keys are below one, by asking each of them.
func plainRank(pairs []api.Pair, key string) int {
	n := 0
	for _, p := range pairs {
		if plainCompare(p.Key, key) < 0 {
			n++
		}
	}
	return n
}

// beside are keys of a tree, and such as are just below and above them, and far from them, and too long to be there.
func beside(pairs []api.Pair) []string {
	long := strings.Repeat("\xff", 1000)
	row := []string{"", "\x00", "\xff", long, long + "\xff", strings.Repeat("\x00", 1000), strings.Repeat("\x00", 1001), strings.Repeat("m", 5000)}
	for _, p := range pairs {
		row = append(row, p.Key, p.Key+"\x00", p.Key+"\xff", p.Key+long)
		if n := len(p.Key); n > 0 {
			row = append(row, p.Key[:n-1], p.Key[:n-1]+string([]byte{p.Key[n-1] - 1}), p.Key[:n-1]+string([]byte{p.Key[n-1] + 1}))
		}
	}
	return row
}

// expectTree holds all that a right tree answers, and that asking changes nothing.
func expectTree(t *testing.T, s *store.Store, x tree) {
	t.Helper()
	was := s.Raw()
	expect(t, "Check", Check(s, x.root), api.OK)
	if n := Size(s, x.root); n != len(x.pairs) {
		t.Errorf("Size: %d, want %d", n, len(x.pairs))
	}
	if l := List(s, x.root); !slices.Equal(l, x.nodes) {
		t.Errorf("List: %x, want %x", l, x.nodes)
	}
	for k, h := range x.nodes {
		expectAt(t, s, x.root, k, h, api.OK)
		if p, e := Pair(s, h); p != x.pairs[k] || e != api.OK {
			t.Errorf("Pair(%x): %q, %d; want %q", h, p, e, x.pairs[k])
		}
	}
	for _, k := range append([]int{len(x.pairs), len(x.pairs) + 1, len(x.pairs) + 64}, oddPlaces...) {
		expectAt(t, s, x.root, k, 0, api.ErrArg)
	}
	for _, key := range beside(x.pairs) {
		expectKey(t, s, x, key)
	}
	expectRaw(t, s, was)
}

func expectAt(t *testing.T, s *store.Store, root api.Handle, k int, want api.Handle, wantE api.Errno) {
	t.Helper()
	if h, e := At(s, root, k); h != want || e != wantE {
		t.Errorf("At(%d): %x, %d; want %x, %d", k, h, e, want, wantE)
	}
}

// expectKey holds what Find and Rank answer, and that At leads back.
func expectKey(t *testing.T, s *store.Store, x tree, key string) {
	t.Helper()
	rank := plainRank(x.pairs, key)
	if n := Rank(s, x.root, key); n != rank {
		t.Errorf("Rank(%q): %d, want %d", key, n, rank)
	}
	want, there := api.Handle(0), rank < len(x.pairs) && x.pairs[rank].Key == key
	if there {
		want = x.nodes[rank]
		expectAt(t, s, x.root, Rank(s, x.root, key), want, api.OK)
	}
	if h, is := Find(s, x.root, key); h != want || is != there {
		t.Errorf("Find(%q): %x, %t; want %x, %t", key, h, is, want, there)
	}
}

// expectFreed frees a tree, and holds that its records are gone, and that all others are as they were.
func expectFreed(t *testing.T, s *store.Store, x tree) {
	t.Helper()
	want := wordsOf(s)
	gone := x.records(t, s)
	for _, h := range gone {
		delete(want, h)
	}
	expect(t, "Free", Free(s, x.root), api.OK)
	if !maps.EqualFunc(wordsOf(s), want, slices.Equal[[]uint64]) {
		t.Errorf("Free leaves %x, want %x", wordsOf(s), want)
	}
	for _, h := range gone {
		if _, e := s.Len(h); e != api.ErrStale {
			t.Errorf("Free leaves the record %x", h)
		}
	}
	expect(t, "Audit", s.Audit(), api.OK)
}

// answers are what all calls but Free answer of a tree.
type answers struct {
	check, free api.Errno
	size        int
	list        []api.Handle
	found       []api.Handle
	ranks       []int
	at          []api.Handle
	errors      []api.Errno
}

func ask(t *testing.T, s *store.Store, root api.Handle, keys []string) answers {
	t.Helper()
	a := answers{check: Check(s, root), size: Size(s, root), list: List(s, root)}
	for _, key := range keys {
		h, is := Find(s, root, key)
		if is != (h != 0) {
			t.Errorf("Find(%q): %x, %t", key, h, is)
		}
		a.found = append(a.found, h)
		a.ranks = append(a.ranks, Rank(s, root, key))
	}
	for _, k := range append([]int{0, 1, 2, 3, 4, 5, 6, 7, 8, 30}, oddPlaces...) {
		h, e := At(s, root, k)
		if e != api.OK && h != 0 || e == api.OK && h == 0 {
			t.Errorf("At(%d): %x, %d", k, h, e)
		}
		a.at, a.errors = append(a.at, h), append(a.errors, e)
	}
	return a
}

func sameAnswers(a, b answers) bool {
	return a.check == b.check && a.size == b.size && slices.Equal(a.list, b.list) && slices.Equal(a.found, b.found) &&
		slices.Equal(a.ranks, b.ranks) && slices.Equal(a.at, b.at) && slices.Equal(a.errors, b.errors)
}

// expectWrong holds that a tree is not right, that all calls end, always in the same way, and that none changes anything.
func expectWrong(t *testing.T, s *store.Store, root api.Handle) {
	t.Helper()
	was := s.Raw()
	keys := []string{"", "a", "b", "bb", "c", "d", "e", "f", "g", "zz", strings.Repeat("a", 1001)}
	first := ask(t, s, root, keys)
	expect(t, "Check", first.check, api.ErrForm)
	for range 2 {
		expect(t, "Free", Free(s, root), api.ErrForm)
		expectRaw(t, s, was)
	}
	if again := ask(t, s, root, keys); !sameAnswers(first, again) {
		t.Errorf("the same calls answer %v, then %v", first, again)
	}
	if twin := ask(t, storeOf(t, was), root, keys); !sameAnswers(first, twin) {
		t.Errorf("a store answers %v, its twin %v", first, twin)
	}
	expectRaw(t, s, was)
}

// isRight tells whether a tree is, by the chapter's words alone.
func isRight(s *store.Store, root api.Handle) bool {
	var reached, told []api.Handle
	var keys []string
	ok := true
	var visit func(h api.Handle) uint64
	visit = func(h api.Handle) uint64 {
		if h == 0 {
			return 0
		}
		n, e := node.Get(s, h)
		if e != api.OK || slices.Contains(reached, h) {
			ok = false
			return 0
		}
		reached = append(reached, h)
		told = append(told, h, n.Key, n.Val)
		size := 1 + visit(n.Left)
		key, e := blob.Get(s, n.Key)
		_, eVal := blob.Get(s, n.Val)
		keys = append(keys, key)
		size += visit(n.Right)
		ok = ok && e == api.OK && eVal == api.OK && n.Size == size
		return size
	}
	visit(root)
	slices.Sort(told)
	return ok && len(slices.Compact(slices.Clone(told))) == len(told) && rise(keys)
}

func rise(keys []string) bool {
	for k := 1; k < len(keys); k++ {
		if plainCompare(keys[k-1], keys[k]) >= 0 {
			return false
		}
	}
	return true
}

// thrower throws numbers, the same ones in every run.
type thrower uint64

func (r *thrower) next() uint64 {
	x := uint64(*r)
	x ^= x << 13
	x ^= x >> 7
	x ^= x << 17
	*r = thrower(x)
	return x
}

// below throws a number from 0 to n - 1.
func (r *thrower) below(n int) int {
	return int(r.next() >> 11 % uint64(n))
}

// text throws one of up to n bytes of few sorts, so that many begin each other.
func (r *thrower) text(n int) string {
	b := make([]byte, r.below(n+1))
	for k := range b {
		b[k] = "\x00ab\xff"[r.below(4)]
	}
	return string(b)
}

// pairs throws n keys that rise, and values.
func (r *thrower) pairs(n, most int) []api.Pair {
	var keys []string
	for range n {
		keys = append(keys, r.text(most))
	}
	slices.SortFunc(keys, plainCompare)
	var row []api.Pair
	for _, k := range slices.Compact(keys) {
		row = append(row, api.Pair{Key: k, Val: r.text(most)})
	}
	return row
}

// shape throws a tree of n nodes.
func (r *thrower) shape(n int) *shape {
	return shaped(n, func(both int) int { return r.below(both + 1) })
}
