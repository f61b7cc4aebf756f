package handle

import (
	"math"
	"slices"
	"testing"

	"loft/api"
)

// gen1 is what the first generation adds to a slot's number.
const gen1 = api.Handle(1) << 32

// handleOf is a handle as the document writes it.
func handleOf(slot, gen uint64) api.Handle { return api.Handle(slot + gen<<32) }

// noTables are tables that are not there, or that nobody made.
func noTables(t *testing.T) []*Table {
	t.Helper()
	refused, _ := New(0, 1)
	form, _ := Of(1, 1, []api.Slot{{}})
	return []*Table{nil, {}, refused, form}
}

// oddHandles are handles of no table here: of slot 0, of generation 0, of slots that none may have.
var oddHandles = []api.Handle{0, 1, 2, 65536, 65537, 1<<32 - 1, 1 << 32, 2 << 32, 1<<32 + 65537, 1<<33 - 1, 1<<32 + 1<<31, 1 << 63, 1<<64 - 1<<32, math.MaxUint64}

var badAddrs = []int{-1, -2, -64, math.MinInt32, -1 << 32, math.MinInt}

func table(t *testing.T, slots int, last uint32) *Table {
	t.Helper()
	x, e := New(slots, last)
	if x == nil || e != api.OK {
		t.Fatalf("New(%d, %d): %v, %d", slots, last, x, e)
	}
	return x
}

// tableOf makes a table of slots.
func tableOf(t *testing.T, slots int, last uint32, l ...api.Slot) *Table {
	t.Helper()
	x, e := Of(slots, last, l)
	if x == nil || e != api.OK {
		t.Fatalf("Of(%d, %d, %d slots): %v, %d", slots, last, len(l), x, e)
	}
	return x
}

func expect(t *testing.T, what string, got, want api.Errno) {
	t.Helper()
	if got != want {
		t.Errorf("%s: %d, want %d", what, got, want)
	}
}

func expectOpen(t *testing.T, x *Table, addr int, want api.Handle) {
	t.Helper()
	if h, e := x.Open(addr); h != want || e != api.OK {
		t.Errorf("Open(%d): %x, %d; want %x", addr, h, e, want)
	}
}

func expectNotOpen(t *testing.T, x *Table, addr int, want api.Errno) {
	t.Helper()
	if h, e := x.Open(addr); h != 0 || e != want {
		t.Errorf("Open(%d): %x, %d; want the error %d", addr, h, e, want)
	}
}

func expectAt(t *testing.T, x *Table, h api.Handle, want int) {
	t.Helper()
	if a, e := x.At(h); a != want || e != api.OK {
		t.Errorf("At(%x): %d, %d; want %d", h, a, e, want)
	}
}

// expectStale holds all calls of a handle that is not live.
func expectStale(t *testing.T, x *Table, h api.Handle) {
	t.Helper()
	if a, e := x.At(h); a != 0 || e != api.ErrStale {
		t.Errorf("At(%x): %d, %d", h, a, e)
	}
	if e := x.Move(h, 5); e != api.ErrStale {
		t.Errorf("Move(%x): %d", h, e)
	}
	if e := x.Close(h); e != api.ErrStale {
		t.Errorf("Close(%x): %d", h, e)
	}
}

func expectClose(t *testing.T, x *Table, hs ...api.Handle) {
	t.Helper()
	for _, h := range hs {
		if e := x.Close(h); e != api.OK {
			t.Errorf("Close(%x): %d", h, e)
		}
	}
}

func expectLive(t *testing.T, x *Table, want ...api.Handle) {
	t.Helper()
	if got := x.Live(); !slices.Equal(got, want) {
		t.Errorf("Live: %x, want %x", got, want)
	}
}

func expectUsed(t *testing.T, x *Table, want int) {
	t.Helper()
	if got := x.Used(); got != want {
		t.Errorf("Used: %d, want %d", got, want)
	}
}

func expectRaw(t *testing.T, x *Table, want ...api.Slot) {
	t.Helper()
	if got := x.Raw(); !slices.Equal(got, want) {
		t.Errorf("Raw: %v, want %v", got, want)
	}
}

func TestExamples(t *testing.T) {
	x := table(t, 2, 2)
	expectOpen(t, x, 10, 1+gen1)
	expectOpen(t, x, 20, 2+gen1)
	expectNotOpen(t, x, 30, api.ErrFull)
	expectClose(t, x, 1+gen1)
	expectOpen(t, x, 30, 1+2*gen1)
	expectStale(t, x, 1+gen1)
	expectClose(t, x, 1+2*gen1)
	expectNotOpen(t, x, 40, api.ErrFull)
	expectAt(t, x, 2+gen1, 20)
}

// P5.1

func TestNewTakes(t *testing.T) {
	for _, slots := range []int{1, 2, 100, 65535, 65536} {
		for _, last := range []uint32{1, 2, 1 << 31, api.MaxGen - 1, api.MaxGen} {
			x := table(t, slots, last)
			expectUsed(t, x, 0)
			expectLive(t, x)
			expectRaw(t, x)
			expectOpen(t, x, 7, 1+gen1)
		}
	}
}

func TestNewRefuses(t *testing.T) {
	for _, c := range []struct {
		slots int
		last  uint32
	}{
		{0, 1}, {-1, 1}, {math.MinInt, 1}, {65537, 1}, {1 << 32, 1}, {1<<32 + 1, 1}, {math.MaxInt, 1},
		{0, api.MaxGen}, {65537, api.MaxGen}, {1, 0}, {65536, 0}, {0, 0}, {-1, 0}, {65537, 0},
	} {
		if x, e := New(c.slots, c.last); x != nil || e != api.ErrArg {
			t.Errorf("New(%d, %d): %v, %d", c.slots, c.last, x, e)
		}
	}
}

func TestTableThatIsNotThere(t *testing.T) {
	for k, x := range noTables(t) {
		for _, a := range append([]int{0, 1, math.MaxInt}, badAddrs...) {
			expectNotOpen(t, x, a, api.ErrNil)
			for _, h := range append([]api.Handle{1 + gen1}, oddHandles...) {
				if n, e := x.At(h); n != 0 || e != api.ErrNil {
					t.Errorf("table %d: At(%x): %d, %d", k, h, n, e)
				}
				expect(t, "Move", x.Move(h, a), api.ErrNil)
				expect(t, "Close", x.Close(h), api.ErrNil)
			}
		}
		if len(x.Live()) != 0 || len(x.Raw()) != 0 || x.Used() != 0 {
			t.Errorf("table %d has names", k)
		}
	}
}

func TestTablesAreApart(t *testing.T) {
	a, b := table(t, 3, 3), table(t, 3, 3)
	expectOpen(t, a, 10, 1+gen1)
	expectStale(t, b, 1+gen1)
	expectUsed(t, b, 0)
	expectOpen(t, b, 20, 1+gen1)
	expectAt(t, a, 1+gen1, 10)
	expectClose(t, a, 1+gen1)
	expectAt(t, b, 1+gen1, 20)
}

func TestLiveIsBySlots(t *testing.T) {
	x := table(t, 5, 9)
	for k := range 5 {
		expectOpen(t, x, 50-k, api.Handle(k+1)+gen1)
	}
	expectLive(t, x, 1+gen1, 2+gen1, 3+gen1, 4+gen1, 5+gen1)
	expectClose(t, x, 4+gen1, 2+gen1)
	expectLive(t, x, 1+gen1, 3+gen1, 5+gen1)
	expectOpen(t, x, 1, 2+2*gen1) // a greater handle than those of slots behind it
	expectLive(t, x, 1+gen1, 2+2*gen1, 3+gen1, 5+gen1)
	expectClose(t, x, 1+gen1, 5+gen1, 3+gen1, 2+2*gen1)
	expectLive(t, x)
}

func TestUsedStaysBehindClosing(t *testing.T) {
	x := table(t, 4, 2)
	for k := range 3 {
		expectUsed(t, x, k)
		expectOpen(t, x, 0, api.Handle(k+1)+gen1)
	}
	expectClose(t, x, 3+gen1, 2+gen1, 1+gen1)
	expectUsed(t, x, 3)
	expectOpen(t, x, 0, 1+2*gen1)
	expectUsed(t, x, 3)
	expectClose(t, x, 1+2*gen1) // retired
	expectUsed(t, x, 3)
	expectOpen(t, x, 0, 2+2*gen1)
	expectOpen(t, x, 0, 3+2*gen1)
	expectUsed(t, x, 3)
	expectOpen(t, x, 0, 4+gen1)
	expectUsed(t, x, 4)
	expectNotOpen(t, x, 0, api.ErrFull)
	expectUsed(t, x, 4)
}

func TestLiveIsNewMemory(t *testing.T) {
	x := table(t, 3, 3)
	expectOpen(t, x, 10, 1+gen1)
	expectOpen(t, x, 20, 2+gen1)
	a, b := x.Live(), x.Live()
	a[0] = 99
	_ = append(a[:1], 77)
	if !slices.Equal(b, []api.Handle{1 + gen1, 2 + gen1}) {
		t.Errorf("answers of Live share memory: %x", b)
	}
	expectLive(t, x, 1+gen1, 2+gen1)
	expectAt(t, x, 1+gen1, 10)
}

// P5.2

func TestOpenTakesAddresses(t *testing.T) {
	x := table(t, 9, 1)
	for k, a := range []int{0, 1, 0, 2, math.MaxInt32, 1 << 32, 1<<32 - 1, math.MaxInt - 1, math.MaxInt} {
		h := api.Handle(k+1) + gen1
		expectOpen(t, x, a, h)
		expectAt(t, x, h, a)
	}
}

func TestOpenRefusesAddresses(t *testing.T) {
	x := table(t, 3, 3)
	expectOpen(t, x, 10, 1+gen1)
	for _, a := range badAddrs {
		expectNotOpen(t, x, a, api.ErrArg)
		expectUsed(t, x, 1)
	}
	expectRaw(t, x, api.Slot{Open: true, Gen: 1, Addr: 10})
	expectOpen(t, x, 20, 2+gen1)
}

func TestOpenArgGoesAheadOfFull(t *testing.T) {
	x := table(t, 1, 1)
	expectOpen(t, x, 10, 1+gen1)
	expectNotOpen(t, x, -1, api.ErrArg)
	expectNotOpen(t, x, 0, api.ErrFull)
}

func TestOpenTakesLeastFree(t *testing.T) {
	x := table(t, 5, 2)
	for k := range 4 {
		expectOpen(t, x, k, api.Handle(k+1)+gen1)
	}
	expectClose(t, x, 4+gen1, 1+gen1, 3+gen1)
	expectOpen(t, x, 11, 1+2*gen1)
	expectOpen(t, x, 13, 3+2*gen1)
	expectClose(t, x, 1+2*gen1) // retired: it is passed over
	expectOpen(t, x, 14, 4+2*gen1)
	expectOpen(t, x, 15, 5+gen1)
	expectNotOpen(t, x, 16, api.ErrFull)
	expectRaw(t, x, api.Slot{Gen: 2}, api.Slot{Open: true, Gen: 1, Addr: 1}, api.Slot{Open: true, Gen: 2, Addr: 13},
		api.Slot{Open: true, Gen: 2, Addr: 14}, api.Slot{Open: true, Gen: 1, Addr: 15})
}

func TestGenerationsRise(t *testing.T) {
	x := table(t, 2, 100)
	for g := api.Handle(1); g <= 100; g++ {
		expectOpen(t, x, int(g), 1+g*gen1)
		expectClose(t, x, 1+g*gen1)
	}
	expectOpen(t, x, 5, 2+gen1) // slot 1 is retired
}

func TestOpenOfFullTable(t *testing.T) {
	x := table(t, 3, 5)
	for k := range 3 {
		expectOpen(t, x, k, api.Handle(k+1)+gen1)
	}
	was := x.Raw()
	expectNotOpen(t, x, 9, api.ErrFull)
	expectNotOpen(t, x, 9, api.ErrFull)
	expectRaw(t, x, was...)
	expectClose(t, x, 2+gen1)
	expectOpen(t, x, 9, 2+2*gen1)
	expectNotOpen(t, x, 9, api.ErrFull)
}

func TestGreatestTable(t *testing.T) {
	x := table(t, 65536, 2)
	for k := range 65536 {
		if h, e := x.Open(k); h != api.Handle(k+1)+gen1 || e != api.OK {
			t.Fatalf("Open(%d): %x, %d", k, h, e)
		}
	}
	expectNotOpen(t, x, 0, api.ErrFull)
	expectUsed(t, x, 65536)
	if n := len(x.Live()); n != 65536 {
		t.Errorf("%d live handles", n)
	}
	expectAt(t, x, 65536+gen1, 65535)
	expectStale(t, x, 65537+gen1)
	expectClose(t, x, 65536+gen1)
	expectOpen(t, x, 5, 65536+2*gen1)
	expectClose(t, x, 65536+2*gen1)
	expectNotOpen(t, x, 0, api.ErrFull)
}

// P5.3

func TestMove(t *testing.T) {
	x := table(t, 3, 3)
	expectOpen(t, x, 10, 1+gen1)
	expectOpen(t, x, 20, 2+gen1)
	for _, a := range []int{0, 5, 10, math.MaxInt, 20} {
		expect(t, "Move", x.Move(1+gen1, a), api.OK)
		expectAt(t, x, 1+gen1, a)
		expectAt(t, x, 2+gen1, 20) // two may have the same address
	}
	expectRaw(t, x, api.Slot{Open: true, Gen: 1, Addr: 20}, api.Slot{Open: true, Gen: 1, Addr: 20})
}

func TestMoveRefusesAddresses(t *testing.T) {
	x := table(t, 3, 3)
	expectOpen(t, x, 10, 1+gen1)
	for _, a := range badAddrs {
		expect(t, "Move", x.Move(1+gen1, a), api.ErrArg)
		expect(t, "Move of a stale handle", x.Move(2+gen1, a), api.ErrArg)
		expect(t, "Move of the handle 0", x.Move(0, a), api.ErrArg)
		expectAt(t, x, 1+gen1, 10)
	}
	expect(t, "Move of a stale handle", x.Move(2+gen1, 0), api.ErrStale)
}

func TestHandlesThatAreNotLive(t *testing.T) {
	x := table(t, 4, 5)
	for k := range 3 {
		expectOpen(t, x, 10+k, api.Handle(k+1)+gen1)
	}
	expectClose(t, x, 2+gen1, 3+gen1)
	expectOpen(t, x, 22, 2+2*gen1)
	was := x.Raw()
	stale := []api.Handle{
		gen1, 2 * gen1, // slot 0
		5 + gen1, 65536 + gen1, // slots beyond the table's
		4, 4 + gen1, 4 + 2*gen1, // a slot that was never opened
		1, 2, 3, // generation 0
		2 + gen1, 3 + gen1, // past ones
		1 + 2*gen1, 2 + 3*gen1, 3 + 2*gen1, // still to come
		1 + 5*gen1, 1 + 6*gen1, 1 + api.MaxGen*gen1,
	}
	for _, h := range append(stale, oddHandles...) {
		expectStale(t, x, h)
		expectRaw(t, x, was...)
	}
	expectAt(t, x, 1+gen1, 10)
	expectAt(t, x, 2+2*gen1, 22)
}

func TestCloseAndOpenAgain(t *testing.T) {
	x := table(t, 2, 3)
	expectOpen(t, x, 10, 1+gen1)
	expectOpen(t, x, 20, 2+gen1)
	expectClose(t, x, 1+gen1)
	expectRaw(t, x, api.Slot{Gen: 1}, api.Slot{Open: true, Gen: 1, Addr: 20})
	expectStale(t, x, 1+gen1)
	expectOpen(t, x, 30, 1+2*gen1)
	expectAt(t, x, 1+2*gen1, 30)
	expectStale(t, x, 1+gen1)
	expectClose(t, x, 1+2*gen1)
	expectOpen(t, x, 0, 1+3*gen1) // the last generation
	expectAt(t, x, 1+3*gen1, 0)
	expectClose(t, x, 1+3*gen1)
	expectNotOpen(t, x, 40, api.ErrFull)
	for g := api.Handle(0); g < 6; g++ {
		expectStale(t, x, 1+g*gen1)
	}
	expectAt(t, x, 2+gen1, 20)
}

func TestOnlyGenerationIsRetiredAtOnce(t *testing.T) {
	x := table(t, 2, 1)
	expectOpen(t, x, 10, 1+gen1)
	expectClose(t, x, 1+gen1)
	expectOpen(t, x, 20, 2+gen1)
	expectNotOpen(t, x, 30, api.ErrFull)
	expectClose(t, x, 2+gen1)
	expectNotOpen(t, x, 30, api.ErrFull)
	expectLive(t, x)
	expectUsed(t, x, 2)
	expectRaw(t, x, api.Slot{Gen: 1}, api.Slot{Gen: 1})
}

// The last generation that there may be does not wrap round to 0.
func TestGreatestGeneration(t *testing.T) {
	x := tableOf(t, 1, api.MaxGen, api.Slot{Gen: api.MaxGen - 1})
	h := handleOf(1, api.MaxGen)
	expectOpen(t, x, 10, h)
	expectAt(t, x, h, 10)
	expectLive(t, x, h)
	expectClose(t, x, h)
	expectRaw(t, x, api.Slot{Gen: api.MaxGen})
	expectNotOpen(t, x, 20, api.ErrFull)
	expectStale(t, x, h)
	expectStale(t, x, 1)
	expectStale(t, x, 1+gen1)
}
