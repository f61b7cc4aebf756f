package compact

import (
	"maps"
	"slices"
	"testing"

	"loft/api"
	"loft/store"
)

// wantSizes and wantSlots are the document's, written out.
var (
	wantSizes = []int{2, 3, 4, 6, 9, 13, 19, 28}
	wantSlots = []int{31, 20, 15, 10, 6, 4, 3, 2}
)

// place is where a record is, and its length.
type place struct {
	h       api.Handle
	addr, n int
}

// class tells that of its slot (-1: it is large).
func (p place) class() int {
	return slices.IndexFunc(wantSizes, func(size int) bool { return size >= p.n+2 })
}

// pages tells how many pages it is on.
func (p place) pages() int {
	if p.class() >= 0 {
		return 1
	}
	return (p.n + 4 + 63) / 64
}

// layout is the places of all records, by rising addresses: a model of what a step does, as plain as the chapters' words, that slides nothing.
type layout []place

// layoutOf reads where the records of a store are off its slots.
func layoutOf(t *testing.T, s *store.Store) layout {
	t.Helper()
	var out layout
	for k, slot := range s.Raw().Slots {
		if !slot.Open {
			continue
		}
		h := api.Handle(k+1) + api.Handle(slot.Gen)<<32
		n, e := s.Len(h)
		if e != api.OK {
			t.Fatalf("Len(%x): %d", h, e)
		}
		out = append(out, place{h, slot.Addr, n})
	}
	slices.SortFunc(out, func(a, b place) int { return a.addr - b.addr })
	return out
}

// lowerSlot tells the least free slot of a small record's class, if its address is a lesser one.
func (l layout) lowerSlot(p place) (int, bool) {
	taken, pages := map[int]bool{}, map[int]bool{}
	for _, q := range l {
		if q.class() == p.class() {
			taken[q.addr], pages[q.addr/64] = true, true
		}
	}
	for _, page := range slices.Sorted(maps.Keys(pages)) {
		for k := range wantSlots[p.class()] {
			if a := page*64 + 2 + k*wantSizes[p.class()]; !taken[a] {
				return a, a < p.addr
			}
		}
	}
	return 0, false
}

// lowerPages tells the least pages that a large record may have, its own ones among them, if these are lesser ones.
func (l layout) lowerPages(p place) (int, bool) {
	taken := map[int]bool{}
	for _, q := range l {
		for k := range q.pages() {
			taken[q.addr/64+k] = taken[q.addr/64+k] || q.h != p.h
		}
	}
	first := 0
	for k := 0; k < p.pages(); k++ {
		if taken[first+k] {
			first, k = first+k+1, -1
		}
	}
	return first*64 + 2, first*64+2 < p.addr
}

// next is what a step does: which record goes elsewhere, and where to (false: it is done).
func (l layout) next() (place, bool) {
	for _, p := range slices.Backward(l) {
		if p.class() < 0 {
			continue
		}
		if to, lower := l.lowerSlot(p); lower {
			return place{p.h, to, p.n}, true
		}
	}
	for _, p := range l {
		if p.class() >= 0 {
			continue
		}
		if to, lower := l.lowerPages(p); lower {
			return place{p.h, to, p.n}, true
		}
	}
	return place{}, false
}

// step is the layout behind one, and whether a record is elsewhere then.
func (l layout) step() (layout, bool) {
	p, moves := l.next()
	if !moves {
		return l, false
	}
	out := slices.DeleteFunc(slices.Clone(l), func(q place) bool { return q.h == p.h })
	k := slices.IndexFunc(out, func(q place) bool { return q.addr > p.addr })
	if k < 0 {
		k = len(out)
	}
	return slices.Insert(out, k, p), true
}

// run is the layout behind at most so many steps: how many brought a record elsewhere, and whether one brought none.
func (l layout) run(budget int) (layout, int, bool) {
	for n := range budget {
		next, moved := l.step()
		if !moved {
			return l, n, true
		}
		l = next
	}
	return l, budget, false
}

// dice is a fixed row of numbers that look thrown.
type dice uint64

// below is a number from 0 to n less 1.
func (d *dice) below(n int) int {
	*d = *d*6364136223846793005 + 1442695040888963407
	return int(uint64(*d) >> 33 % uint64(n))
}

// length is that of a record: of small ones, of large ones, or of both.
func (d *dice) length(sorts int) int {
	edges := []int{0, 1, 2, 3, 4, 5, 26, 27, 28, 60, 61, 124, 125, 3998}
	switch {
	case sorts == onlySmall || sorts == both && d.below(3) > 0:
		return d.below(27)
	case d.below(12) == 0 && sorts == both:
		return edges[d.below(len(edges))]
	}
	return 27 + d.below(350)
}

// Which records a store gets.
const (
	onlySmall = iota
	onlyLarge
	both
)

// use does something with a store that is not a step: a record is made, dropped, put or slid. What records must have is kept in want.
func use(t *testing.T, d *dice, s *store.Store, sorts int, want map[api.Handle][]uint64) {
	t.Helper()
	do := d.below(10)
	all := s.All()
	if do < 5 || len(all) == 0 {
		if h, e := s.Make(d.length(sorts)); e == api.OK {
			want[h] = fill(t, s, h, uint64(*d))
		}
		return
	}
	h := all[d.below(len(all))]
	switch {
	case do < 7:
		expect(t, "Drop", s.Drop(h), api.OK)
		delete(want, h)
	case do < 9:
		want[h] = fill(t, s, h, uint64(*d))
	default:
		_, e := s.Slide(h)
		expect(t, "Slide", e, api.OK)
	}
}

// thrown is a store behind many calls, with records here and there, and what these must have.
func thrown(t *testing.T, d *dice, quota, sorts int) (*store.Store, map[api.Handle][]uint64) {
	t.Helper()
	s := empty(t, quota)
	want := map[api.Handle][]uint64{}
	for range 40 + d.below(160) {
		use(t, d, s, sorts, want)
	}
	for _, h := range s.All() { // so that there is something to bring together
		if d.below(3) == 0 {
			expect(t, "Drop", s.Drop(h), api.OK)
			delete(want, h)
		}
	}
	return s, want
}

// eachThrown hands out stores of all sorts of records.
func eachThrown(t *testing.T, f func(d *dice, s *store.Store, sorts int, want map[api.Handle][]uint64)) {
	t.Helper()
	for seed, quota := range []int{0, 64, 640, 1920, 6400, 20000, 1 << 18} {
		for _, sorts := range []int{onlySmall, onlyLarge, both} {
			for again := range 4 {
				d := dice(1000*seed + 10*again + sorts)
				s, want := thrown(t, &d, quota, sorts)
				f(&d, s, sorts, want)
				if t.Failed() {
					t.Fatalf("a store of the quota %d, of the sorts %d, the %dth one", quota, sorts, again)
				}
			}
		}
	}
}

// expectRecords holds handles, lengths and words of all records.
func expectRecords(t *testing.T, s *store.Store, want map[api.Handle][]uint64) {
	t.Helper()
	if got := s.All(); len(got) != len(want) {
		t.Errorf("%d records, want %d", len(got), len(want))
	}
	for h, words := range want {
		expectRecord(t, s, h, words...)
	}
}

// expectLayout holds where all records are.
func expectLayout(t *testing.T, s *store.Store, want layout) {
	t.Helper()
	if got := layoutOf(t, s); !slices.Equal(got, want) {
		t.Errorf("the records are at %v, want %v", got, want)
	}
}

// expectModelStep does a step: it does what the model does.
func expectModelStep(t *testing.T, c *Compactor, s *store.Store) bool {
	t.Helper()
	after, moves := layoutOf(t, s).step()
	expectStep(t, c, moves)
	expectLayout(t, s, after)
	expect(t, "Audit", s.Audit(), api.OK)
	return moves
}

// P7.1, P7.3, P7.4: step by step, till it is done.
func TestStepsAgainstModel(t *testing.T) {
	moved := 0
	eachThrown(t, func(_ *dice, s *store.Store, _ int, want map[api.Handle][]uint64) {
		c, n := compactor(t, s), 0
		for expectModelStep(t, c, s) {
			n++
			expectRecords(t, s, want)
			if n > len(want) || t.Failed() {
				t.Fatalf("behind %d steps of %d records", n, len(want))
			}
		}
		expectDone(t, s)
		expectRecords(t, s, want)
		moved += n
	})
	if moved < 500 {
		t.Errorf("%d steps in all: these stores try too little", moved)
	}
}

// P7.2, P7.5: whole, in parts, and step by step, all of it is the same, to the last word.
func TestRunsAgainstModel(t *testing.T) {
	eachThrown(t, func(d *dice, s *store.Store, _ int, want map[api.Handle][]uint64) {
		start := s.Raw()
		last, n, _ := layoutOf(t, s).run(len(want) + 1)
		budgets := []int{0, 1, 2, n - 1, n, n + 1, n + 2, len(want), 1 << 40, d.below(n + 3)}
		for _, budget := range budgets {
			if budget < 0 {
				continue
			}
			s := storeOf(t, start)
			l, k, done := layoutOf(t, s).run(min(budget, n+2))
			expectRun(t, compactor(t, s), budget, k, done)
			expectLayout(t, s, l)
			expectRecords(t, s, want)
			expectRun(t, compactor(t, s), n+2, n-k, true) // the rest
			expectLayout(t, s, last)
		}
	})
}

func TestRunOfParts(t *testing.T) {
	eachThrown(t, func(d *dice, s *store.Store, _ int, want map[api.Handle][]uint64) {
		whole, parts := s, storeOf(t, s.Raw())
		sum := d.below(len(want) + 4)
		n, done := run(t, compactor(t, whole), sum)
		c := compactor(t, parts)
		inParts, partDone := 0, false
		for left := sum; left > 0; {
			budget := min(left, d.below(5))
			k, isDone := run(t, c, budget)
			inParts, partDone, left = inParts+k, partDone || isDone, left-budget
		}
		if n != inParts || done != partDone {
			t.Errorf("Run(%d): %d, %t; in parts %d, %t", sum, n, done, inParts, partDone)
		}
		expectRaw(t, parts, whole.Raw())
		expectRecords(t, parts, want)
	})
}

func TestRunAsSteps(t *testing.T) {
	eachThrown(t, func(d *dice, s *store.Store, _ int, want map[api.Handle][]uint64) {
		single := storeOf(t, s.Raw())
		budget := d.below(len(want) + 2)
		n, done := run(t, compactor(t, s), budget)
		c, k, none := compactor(t, single), 0, false
		for range budget {
			moved, e := c.Step()
			expect(t, "Step", e, api.OK)
			if !moved {
				none = true
				break
			}
			k++
		}
		if n != k || done != none {
			t.Errorf("Run(%d): %d, %t; by steps %d, %t", budget, n, done, k, none)
		}
		expectRaw(t, single, s.Raw())
	})
}

// P7.3 beside records that are made, dropped, put and slid: each step is still what the words say of the store as it is then.
func TestStepsBesideUse(t *testing.T) {
	moved := 0
	eachThrown(t, func(d *dice, s *store.Store, sorts int, want map[api.Handle][]uint64) {
		c := compactor(t, s)
		for range 60 {
			for range d.below(3) {
				use(t, d, s, sorts, want)
			}
			if expectModelStep(t, c, s) {
				moved++
			}
			expectRecords(t, s, want)
			if t.Failed() {
				return
			}
		}
		run(t, c, len(want))
		expectDone(t, s)
		expectRecords(t, s, want)
	})
	if moved < 500 {
		t.Errorf("%d steps in all: these stores try too little", moved)
	}
}

func TestRunsBesideUse(t *testing.T) {
	eachThrown(t, func(d *dice, s *store.Store, sorts int, want map[api.Handle][]uint64) {
		c := compactor(t, s)
		for range 20 {
			for range d.below(8) {
				use(t, d, s, sorts, want)
			}
			budget := d.below(6)
			l, n, done := layoutOf(t, s).run(budget)
			expectRun(t, c, budget, n, done)
			expectLayout(t, s, l)
			expectRecords(t, s, want)
			expect(t, "Audit", s.Audit(), api.OK)
		}
	})
}

// P7.4 of Run: so many steps as there are records always do.
func TestDoneBehindAsManyStepsAsRecords(t *testing.T) {
	eachThrown(t, func(_ *dice, s *store.Store, _ int, want map[api.Handle][]uint64) {
		n, _ := run(t, compactor(t, s), len(want))
		if n > len(want) {
			t.Errorf("%d steps of %d records", n, len(want))
		}
		expectDone(t, s)
		expectRecords(t, s, want)
	})
}

// A refused call leaves all as it was, and so does what comes behind it.
func TestRefusalsChangeNothing(t *testing.T) {
	eachThrown(t, func(_ *dice, s *store.Store, _ int, _ map[api.Handle][]uint64) {
		c, was := compactor(t, s), s.Raw()
		expectNotRun(t, c, -1, api.ErrArg)
		expectRaw(t, s, was)
		expectModelStep(t, c, s)
	})
}

// P1 of the whole: the same calls have the same answers; which compactor of a store is called is the same, too, and a store that is loaded amid a compaction goes on as that does.
func TestSameCallsSameAnswers(t *testing.T) {
	eachThrown(t, func(d *dice, s *store.Store, sorts int, _ map[api.Handle][]uint64) {
		twin := storeOf(t, s.Raw())
		c := compactor(t, s)
		for range 30 {
			again := *d
			use(t, d, s, sorts, map[api.Handle][]uint64{})
			use(t, &again, twin, sorts, map[api.Handle][]uint64{})
			budget := d.below(3)
			n, done := run(t, c, budget)
			twin = storeOf(t, twin.Raw())
			expectRun(t, compactor(t, twin), budget, n, done)
			expectRaw(t, twin, s.Raw())
		}
	})
}
