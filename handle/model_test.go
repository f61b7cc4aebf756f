package handle

import (
	"slices"
	"testing"

	"loft/api"
)

// model is a table as plain as the chapter's words: how often each slot was opened, and the addresses of those that are open.
type model struct {
	most  int
	last  uint64
	gens  map[int]uint64
	addrs map[int]int
}

func newModel(most int, last uint32) *model {
	return &model{most, uint64(last), map[int]uint64{}, map[int]int{}}
}

func (m *model) open(addr int) (api.Handle, api.Errno) {
	if addr < 0 {
		return 0, api.ErrArg
	}
	for k := 1; k <= m.most; k++ {
		if _, isOpen := m.addrs[k]; isOpen || m.gens[k] == m.last {
			continue
		}
		m.gens[k]++
		m.addrs[k] = addr
		return handleOf(uint64(k), m.gens[k]), api.OK
	}
	return 0, api.ErrFull
}

// slot tells the slot of a live handle (0: it is not live).
func (m *model) slot(h api.Handle) int {
	for k := range m.addrs {
		if handleOf(uint64(k), m.gens[k]) == h {
			return k
		}
	}
	return 0
}

func (m *model) at(h api.Handle) (int, api.Errno) {
	k := m.slot(h)
	if k == 0 {
		return 0, api.ErrStale
	}
	return m.addrs[k], api.OK
}

func (m *model) move(h api.Handle, addr int) api.Errno {
	if addr < 0 {
		return api.ErrArg
	}
	k := m.slot(h)
	if k == 0 {
		return api.ErrStale
	}
	m.addrs[k] = addr
	return api.OK
}

func (m *model) close(h api.Handle) api.Errno {
	k := m.slot(h)
	if k == 0 {
		return api.ErrStale
	}
	delete(m.addrs, k)
	return api.OK
}

func (m *model) live() []api.Handle {
	var out []api.Handle
	for k := 1; k <= m.most; k++ {
		if _, isOpen := m.addrs[k]; isOpen {
			out = append(out, handleOf(uint64(k), m.gens[k]))
		}
	}
	return out
}

func (m *model) used() int {
	n := 0
	for k := range m.gens {
		n = max(n, k)
	}
	return n
}

func (m *model) raw() []api.Slot {
	var out []api.Slot
	for k := 1; k <= m.used(); k++ {
		a, isOpen := m.addrs[k]
		out = append(out, api.Slot{Open: isOpen, Gen: uint32(m.gens[k]), Addr: a})
	}
	return out
}

// dice is a fixed row of numbers that look thrown.
type dice uint64

// below is a number from 0 to n less 1.
func (d *dice) below(n int) int {
	*d = *d*6364136223846793005 + 1442695040888963407
	return int(uint64(*d) >> 33 % uint64(n))
}

func (d *dice) addr() int { return d.below(20) - 2 }

// handle is mostly a live one, else one that is near them.
func (d *dice) handle(m *model) api.Handle {
	if live := m.live(); len(live) > 0 && d.below(4) > 0 {
		return live[d.below(len(live))]
	}
	return handleOf(uint64(d.below(m.most+3)), uint64(d.below(int(min(m.last, 20))+3)))
}

// answer is what a call told, and which one it was.
type answer struct {
	do   int
	h    api.Handle
	addr int
	e    api.Errno
}

// play does one call on a table and the same one on the model: what either told.
func play(d *dice, x *Table, m *model) (answer, answer) {
	do := d.below(10)
	got, want := answer{do: do}, answer{do: do}
	switch {
	case do < 4:
		a := d.addr()
		got.h, got.e = x.Open(a)
		want.h, want.e = m.open(a)
	case do < 7:
		h := d.handle(m)
		got.e, want.e = x.Close(h), m.close(h)
	case do < 8:
		h := d.handle(m)
		got.addr, got.e = x.At(h)
		want.addr, want.e = m.at(h)
	default:
		h, a := d.handle(m), d.addr()
		got.e, want.e = x.Move(h, a), m.move(h, a)
	}
	return got, want
}

// expectModel holds all that a table tells against the model.
func expectModel(t *testing.T, x *Table, m *model) {
	t.Helper()
	expectLive(t, x, m.live()...)
	expectUsed(t, x, m.used())
	expectRaw(t, x, m.raw()...)
	for _, h := range m.live() {
		a, _ := m.at(h)
		expectAt(t, x, h, a)
	}
}

// shapes are slots and last generations of tables that are tried.
var shapes = []struct {
	slots int
	last  uint32
}{{1, 1}, {1, 2}, {1, 50}, {2, 1}, {3, 2}, {5, 20}, {8, 3}, {20, 10}, {40, api.MaxGen}, {65536, 4}}

func TestAgainstModel(t *testing.T) {
	for seed, c := range shapes {
		x, m := table(t, c.slots, c.last), newModel(c.slots, c.last)
		d := dice(seed)
		for step := range 1500 {
			got, want := play(&d, x, m)
			if got != want {
				t.Fatalf("New(%d, %d), step %d: %v, want %v", c.slots, c.last, step, got, want)
			}
			if c.slots < 100 || step%100 == 0 { // the model goes through all slots
				expectModel(t, x, m)
			}
			if t.Failed() {
				t.Fatalf("New(%d, %d), step %d: behind %v", c.slots, c.last, step, got)
			}
		}
	}
}

// P5.5

func TestNoHandleIsToldTwice(t *testing.T) {
	for seed, c := range shapes[:9] {
		x, m := table(t, c.slots, c.last), newModel(c.slots, c.last)
		d := dice(seed + 50)
		told := map[api.Handle]bool{}
		for step := range 1500 {
			got, _ := play(&d, x, m)
			if got.h != 0 && told[got.h] {
				t.Fatalf("New(%d, %d), step %d: %x is told twice", c.slots, c.last, step, got.h)
			}
			if got.h != 0 {
				told[got.h] = true
			}
		}
	}
}

func TestClosedIsStaleForEver(t *testing.T) {
	for seed, c := range shapes[:9] {
		x := table(t, c.slots, c.last)
		d := dice(seed + 70)
		var closed []api.Handle
		for range 400 {
			x.Open(d.below(9))
			if live := x.Live(); len(live) > 0 && d.below(3) > 0 {
				h := live[d.below(len(live))]
				expectClose(t, x, h)
				closed = append(closed, h)
			}
			for _, h := range closed {
				expectStale(t, x, h)
			}
			if t.Failed() {
				t.Fatalf("New(%d, %d)", c.slots, c.last)
			}
		}
	}
}

func TestLiveHandlesHaveSlotsOfTheirOwn(t *testing.T) {
	for seed, c := range shapes[:9] {
		x, m := table(t, c.slots, c.last), newModel(c.slots, c.last)
		d := dice(seed + 90)
		for step := range 1500 {
			play(&d, x, m)
			before := api.Handle(0)
			for _, h := range x.Live() {
				if slot := h % gen1; slot <= before || slot > api.Handle(c.slots) {
					t.Fatalf("New(%d, %d), step %d: slot %d behind %d", c.slots, c.last, step, slot, before)
				}
				before = h % gen1
			}
		}
	}
}

func TestOfRawGoesOn(t *testing.T) {
	for seed, c := range shapes {
		x, m := table(t, c.slots, c.last), newModel(c.slots, c.last)
		d := dice(seed + 20)
		for step := range 1500 {
			elder := x
			x = tableOf(t, c.slots, c.last, elder.Raw()...)
			expectRaw(t, x, elder.Raw()...)
			got, want := play(&d, x, m)
			if got != want || t.Failed() {
				t.Fatalf("New(%d, %d), step %d: %v, want %v", c.slots, c.last, step, got, want)
			}
		}
	}
}

// P5.6

// fill opens till no slot is free: how many handles that told.
func fill(t *testing.T, x *Table, closeAll bool) int {
	t.Helper()
	for n := 0; ; n++ {
		h, e := x.Open(n)
		if e == api.ErrFull {
			return n
		}
		if e != api.OK {
			t.Fatalf("Open: %d behind %d handles", e, n)
		}
		if closeAll {
			expectClose(t, x, h)
		}
	}
}

var small = []struct {
	slots int
	last  uint32
}{{1, 1}, {1, 2}, {2, 1}, {2, 2}, {3, 7}, {7, 3}, {40, 25}, {1, 1000}, {1000, 1}}

func TestHowManyHandlesThereAre(t *testing.T) {
	for _, c := range small {
		all := c.slots * int(c.last)
		x := table(t, c.slots, c.last)
		if n := fill(t, x, true); n != all {
			t.Errorf("New(%d, %d): %d handles, want %d", c.slots, c.last, n, all)
		}
		for range 3 {
			expectNotOpen(t, x, 0, api.ErrFull)
		}
		expectLive(t, x)
		expectUsed(t, x, c.slots)
	}
}

func TestHowManyHandlesThereAreAtOnce(t *testing.T) {
	for _, c := range small {
		x := table(t, c.slots, c.last)
		all := 0
		for range c.last { // filled and emptied, each slot loses one generation
			all += fill(t, x, false)
			live := x.Live()
			if len(live) != c.slots {
				t.Fatalf("New(%d, %d): %d live handles", c.slots, c.last, len(live))
			}
			slices.Reverse(live)
			expectClose(t, x, live...)
		}
		expectNotOpen(t, x, 0, api.ErrFull)
		if all != c.slots*int(c.last) {
			t.Errorf("New(%d, %d): %d handles", c.slots, c.last, all)
		}
	}
}

// Whatever is opened and closed, there are never more handles than slots times generations.
func TestNeverMoreHandles(t *testing.T) {
	for seed, c := range shapes[:8] {
		x, m := table(t, c.slots, c.last), newModel(c.slots, c.last)
		d := dice(seed + 30)
		n := 0
		for range 3000 {
			if got, _ := play(&d, x, m); got.h != 0 {
				n++
			}
		}
		if n > c.slots*int(c.last) {
			t.Errorf("New(%d, %d): %d handles", c.slots, c.last, n)
		}
	}
}

// P1 of the whole: the same calls have the same answers.
func TestSameCallsSameAnswers(t *testing.T) {
	row := func() []answer {
		x, m := table(t, 20, 30), newModel(20, 30)
		d := dice(77)
		var out []answer
		for range 3000 {
			got, _ := play(&d, x, m)
			out = append(out, got)
			for _, h := range x.Live() {
				out = append(out, answer{do: -1, h: h})
			}
		}
		return out
	}
	if !slices.Equal(row(), row()) {
		t.Error("the same calls have other answers")
	}
}
