package handle

import (
	"math"
	"slices"
	"testing"

	"loft/api"
)

// fewSlots is a row of one slot of each kind.
func fewSlots() []api.Slot {
	return []api.Slot{{Open: true, Gen: 2, Addr: 10}, {Gen: 1}, {Gen: 3}, {Open: true, Gen: 3, Addr: 0}, {Open: true, Gen: 1, Addr: math.MaxInt}}
}

// P5.4

func TestRaw(t *testing.T) {
	x := table(t, 3, 2)
	expectRaw(t, x)
	expectOpen(t, x, 0, 1+gen1)
	expectRaw(t, x, api.Slot{Open: true, Gen: 1})
	expectOpen(t, x, 7, 2+gen1)
	expectClose(t, x, 1+gen1)
	expectRaw(t, x, api.Slot{Gen: 1}, api.Slot{Open: true, Gen: 1, Addr: 7})
	expectClose(t, x, 2+gen1)
	expectRaw(t, x, api.Slot{Gen: 1}, api.Slot{Gen: 1})
	expectOpen(t, x, 9, 1+2*gen1)
	expectClose(t, x, 1+2*gen1)
	expectRaw(t, x, api.Slot{Gen: 2}, api.Slot{Gen: 1})
}

func TestOfKeepsSlots(t *testing.T) {
	x := tableOf(t, 7, 3, fewSlots()...)
	expectRaw(t, x, fewSlots()...)
	expectUsed(t, x, 5)
	expectLive(t, x, 1+2*gen1, 4+3*gen1, 5+gen1)
	expectAt(t, x, 1+2*gen1, 10)
	expectAt(t, x, 4+3*gen1, 0)
	expectAt(t, x, 5+gen1, math.MaxInt)
	for _, h := range []api.Handle{1 + gen1, 1 + 3*gen1, 2 + gen1, 2 + 2*gen1, 3 + 3*gen1, 6 + gen1} {
		expectStale(t, x, h)
	}
	expectOpen(t, x, 20, 2+2*gen1)
	expectOpen(t, x, 60, 6+gen1) // slot 3 is retired
	expectClose(t, x, 4+3*gen1)
	expectOpen(t, x, 70, 7+gen1)
	expectNotOpen(t, x, 80, api.ErrFull)
}

func TestOfNoSlots(t *testing.T) {
	for _, l := range [][]api.Slot{nil, {}, fewSlots()[:0]} {
		for _, c := range []struct {
			slots int
			last  uint32
		}{{1, 1}, {65536, 1}, {1, api.MaxGen}, {65536, api.MaxGen}} {
			x := tableOf(t, c.slots, c.last, l...)
			expectUsed(t, x, 0)
			expectLive(t, x)
			expectRaw(t, x)
			expectOpen(t, x, 3, 1+gen1)
		}
	}
}

func TestOfArguments(t *testing.T) {
	rows := [][]api.Slot{nil, fewSlots(), {{}}, {{Gen: 1, Addr: -1}}}
	for _, l := range rows {
		for _, c := range []struct {
			slots int
			last  uint32
		}{{0, 3}, {-1, 3}, {math.MinInt, 3}, {65537, 3}, {math.MaxInt, 3}, {9, 0}, {0, 0}} {
			if x, e := Of(c.slots, c.last, l); x != nil || e != api.ErrArg {
				t.Errorf("Of(%d, %d, %v): %v, %d", c.slots, c.last, l, x, e)
			}
		}
	}
}

func TestOfRefusesSlots(t *testing.T) {
	good := api.Slot{Open: true, Gen: 1, Addr: 5}
	for _, bad := range []api.Slot{
		{}, {Open: true}, {Open: true, Addr: 5}, // generation 0
		{Gen: 4}, {Open: true, Gen: 4, Addr: 5}, {Gen: api.MaxGen}, {Open: true, Gen: api.MaxGen}, // above the last one
		{Open: true, Gen: 1, Addr: -1}, {Open: true, Gen: 3, Addr: math.MinInt}, {Gen: 1, Addr: -1}, {Gen: 3, Addr: math.MinInt}, // below 0
		{Gen: 1, Addr: 1}, {Gen: 2, Addr: 5}, {Gen: 3, Addr: 5}, {Gen: 3, Addr: math.MaxInt}, // not open, but of an address
	} {
		for _, l := range [][]api.Slot{{bad}, {bad, good}, {good, bad}, {good, bad, good}} {
			if x, e := Of(3, 3, l); x != nil || e != api.ErrForm {
				t.Errorf("Of(3, 3, %v): %v, %d", l, x, e)
			}
		}
	}
}

func TestOfTakesEdges(t *testing.T) {
	for _, s := range []api.Slot{
		{Gen: 1}, {Gen: 3}, {Open: true, Gen: 1}, {Open: true, Gen: 3}, {Open: true, Gen: 1, Addr: math.MaxInt}, {Open: true, Gen: 3, Addr: 1},
	} {
		expectRaw(t, tableOf(t, 1, 3, s), s)
	}
	greatest := api.Slot{Open: true, Gen: api.MaxGen, Addr: 7}
	expectAt(t, tableOf(t, 1, api.MaxGen, greatest), handleOf(1, api.MaxGen), 7)
}

func TestOfAsManySlotsAsThereMayBe(t *testing.T) {
	for _, slots := range []int{1, 2, 31, 65535, 65536} {
		l := slices.Repeat([]api.Slot{{Open: true, Gen: 1, Addr: 9}}, slots+1)
		x := tableOf(t, slots, 2, l[:slots]...)
		expectUsed(t, x, slots)
		expectNotOpen(t, x, 0, api.ErrFull)
		expectClose(t, x, api.Handle(slots)+gen1)
		expectOpen(t, x, 0, api.Handle(slots)+2*gen1)
		if y, e := Of(slots, 2, l); y != nil || e != api.ErrForm {
			t.Errorf("Of of %d slots for %d: %v, %d", slots+1, slots, y, e)
		}
	}
}

func TestRawIsNewMemory(t *testing.T) {
	x := tableOf(t, 7, 3, fewSlots()...)
	a, b := x.Raw(), x.Raw()
	a[0], a[1] = api.Slot{}, api.Slot{Open: true, Gen: 2, Addr: 99}
	_ = append(a, api.Slot{Open: true, Gen: 1, Addr: 44})
	if !slices.Equal(b, fewSlots()) {
		t.Errorf("answers of Raw share memory: %v", b)
	}
	expectRaw(t, x, fewSlots()...)
	expectUsed(t, x, 5)
	expectAt(t, x, 1+2*gen1, 10)
	expectStale(t, x, 2+2*gen1)
	expect(t, "Move", x.Move(1+2*gen1, 11), api.OK)
	expectOpen(t, x, 22, 2+2*gen1)
	expectOpen(t, x, 66, 6+gen1)
	if !slices.Equal(b, fewSlots()) {
		t.Errorf("a table changes an answer of Raw: %v", b)
	}
	if c := a[:cap(a)]; len(c) > 5 && c[5] == (api.Slot{Open: true, Gen: 1, Addr: 66}) {
		t.Error("a table writes behind an answer of Raw")
	}
}

func TestOfKeepsNoMemory(t *testing.T) {
	l := append(fewSlots(), api.Slot{Gen: 77, Addr: 77}, api.Slot{Gen: 78, Addr: 78})
	was := slices.Clone(l)
	x := tableOf(t, 7, 3, l[:5]...)
	y := tableOf(t, 7, 3, l[:5]...)
	expect(t, "Move", x.Move(1+2*gen1, 11), api.OK)
	expectOpen(t, x, 22, 2+2*gen1)
	expectClose(t, x, 5+gen1)
	expectOpen(t, x, 55, 5+2*gen1)
	expectOpen(t, x, 66, 6+gen1) // where the row has spare room
	if !slices.Equal(l, was) {
		t.Errorf("a table changes the row that it was made of: %v", l)
	}
	expectRaw(t, y, fewSlots()...) // two tables of one row are apart
	for k := range l {
		l[k] = api.Slot{Gen: 1}
	}
	expectAt(t, x, 1+2*gen1, 11)
	expectAt(t, x, 6+gen1, 66)
	expectRaw(t, y, fewSlots()...)
}

func TestOfThatRefusesChangesNothing(t *testing.T) {
	l := append(fewSlots(), api.Slot{Gen: 4}, api.Slot{Gen: 9, Addr: 9})
	was := slices.Clone(l)
	Of(7, 3, l[:6])
	Of(4, 3, l[:5])
	Of(0, 3, l[:5])
	if !slices.Equal(l, was) {
		t.Errorf("a row that is refused is changed: %v", l)
	}
}
