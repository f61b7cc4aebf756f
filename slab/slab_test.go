package slab

import (
	"math"
	"slices"
	"testing"

	"loft/api"
)

// lastAddr is the greatest address that there may be.
const lastAddr = (api.LastPage+1)*api.PageWords - 1

// arena makes one with pages claimed, all of whose words differ.
func arena(t *testing.T, quota int, pages ...int) *Slab {
	t.Helper()
	s, e := New(quota)
	if s == nil || e != api.OK {
		t.Fatalf("New(%d): %v, %d", quota, s, e)
	}
	for _, p := range pages {
		if e := s.Claim(p); e != api.OK {
			t.Fatalf("Claim(%d): %d", p, e)
		}
		for k := range api.PageWords {
			a := p*api.PageWords + k
			if e := s.Write(a, mark(a)); e != api.OK {
				t.Fatalf("Write(%d): %d", a, e)
			}
		}
	}
	return s
}

// mark is what arena writes at an address.
func mark(addr int) uint64 { return uint64(addr)*3 + 1<<63 }

// state is all that calls can tell of an arena.
type state struct {
	quota int
	pages []int
	words map[int]uint64
}

func stateOf(t *testing.T, s *Slab) state {
	t.Helper()
	st := state{s.Quota(), s.Pages(), map[int]uint64{}}
	for _, p := range st.pages {
		for k := range api.PageWords {
			w, e := s.Read(p*api.PageWords + k)
			if e != api.OK {
				t.Fatalf("Read(%d): %d", p*api.PageWords+k, e)
			}
			st.words[p*api.PageWords+k] = w
		}
	}
	return st
}

// expectState holds an arena against what it must be.
func expectState(t *testing.T, s *Slab, want state) {
	t.Helper()
	got := stateOf(t, s)
	if got.quota != want.quota || !slices.Equal(got.pages, want.pages) {
		t.Fatalf("quota %d, pages %v; want %d, %v", got.quota, got.pages, want.quota, want.pages)
	}
	for a, w := range want.words {
		if got.words[a] != w {
			t.Fatalf("word %d: %d, want %d", a, got.words[a], w)
		}
	}
}

func expect(t *testing.T, what string, got, want api.Errno) {
	t.Helper()
	if got != want {
		t.Errorf("%s: %d, want %d", what, got, want)
	}
}

func expectGrant(t *testing.T, s *Slab, n, page int, want api.Errno) {
	t.Helper()
	if p, e := s.Grant(n); p != page || e != want {
		t.Errorf("Grant(%d): %d, %d; want %d, %d", n, p, e, page, want)
	}
}

func expectRead(t *testing.T, s *Slab, addr int, word uint64, want api.Errno) {
	t.Helper()
	if w, e := s.Read(addr); w != word || e != want {
		t.Errorf("Read(%d): %d, %d; want %d, %d", addr, w, e, word, want)
	}
}

func TestExamples(t *testing.T) {
	s := arena(t, 192)
	expectGrant(t, s, 1, 0, api.OK)
	expectGrant(t, s, 2, 1, api.OK)
	expectGrant(t, s, 1, 0, api.ErrQuota)
	expect(t, "Release(0, 1)", s.Release(0, 1), api.OK)
	expectGrant(t, s, 1, 0, api.OK)
	expect(t, "Write(64, 7)", s.Write(64, 7), api.OK)
	expect(t, "Move(65, 64, 1)", s.Move(65, 64, 1), api.OK)
	expectRead(t, s, 65, 7, api.OK)
	expect(t, "Release(1, 2)", s.Release(1, 2), api.OK)
	expectRead(t, s, 64, 0, api.ErrNone)
}

// P1.1

func TestNewTakesQuotas(t *testing.T) {
	for _, q := range []int{0, 1, 63, 64, 65, api.MaxQuota - 1, api.MaxQuota} {
		s := arena(t, q)
		if s.Quota() != q || len(s.Pages()) != 0 || s.Is(0) || s.Is(api.LastPage) {
			t.Errorf("New(%d): quota %d, pages %v", q, s.Quota(), s.Pages())
		}
	}
}

func TestNewRefusesQuotas(t *testing.T) {
	for _, q := range []int{-1, -64, math.MinInt, api.MaxQuota + 1, 1 << 30, math.MaxInt} {
		if s, e := New(q); s != nil || e != api.ErrArg {
			t.Errorf("New(%d): %v, %d", q, s, e)
		}
	}
}

func TestArenasAreApart(t *testing.T) {
	a, b := arena(t, 640, 3), arena(t, 640)
	if b.Is(3) || len(b.Pages()) != 0 {
		t.Error("a page of one is another's")
	}
	expectGrant(t, b, 4, 0, api.OK)
	expect(t, "Write", b.Write(3*64, 5), api.OK)
	expectRead(t, a, 3*64, mark(3*64), api.OK)
}

func TestIsAndPages(t *testing.T) {
	s := arena(t, api.MaxQuota, 9, api.LastPage, 2, 500, 0)
	want := []int{0, 2, 9, 500, api.LastPage}
	if got := s.Pages(); !slices.Equal(got, want) {
		t.Errorf("Pages: %v, want %v", got, want)
	}
	for _, p := range want {
		if !s.Is(p) {
			t.Errorf("Is(%d): false", p)
		}
	}
	for _, p := range []int{1, 3, 8, 10, 499, api.LastPage - 1, api.LastPage + 1, -1, math.MinInt, math.MaxInt} {
		if s.Is(p) {
			t.Errorf("Is(%d): true", p)
		}
	}
	expect(t, "Release", s.Release(9, 1), api.OK)
	if s.Is(9) || !slices.Equal(s.Pages(), []int{0, 2, 500, api.LastPage}) {
		t.Errorf("Pages behind Release: %v", s.Pages())
	}
}

func TestPagesAreNewMemory(t *testing.T) {
	s := arena(t, 640, 1, 4)
	a, b := s.Pages(), s.Pages()
	a[0] = 7
	if b[0] != 1 || !slices.Equal(s.Pages(), []int{1, 4}) || s.Is(7) {
		t.Error("an answer of Pages shares memory")
	}
}

// P1.2

func TestGrantCounts(t *testing.T) {
	for _, n := range []int{0, -1, math.MinInt, api.MaxPages + 1, 1 << 40, math.MaxInt} {
		s := arena(t, api.MaxQuota, 5)
		was := stateOf(t, s)
		expectGrant(t, s, n, 0, api.ErrArg)
		expectState(t, s, was)
	}
	for _, n := range []int{1, 2, api.MaxPages - 1, api.MaxPages} {
		s := arena(t, api.MaxQuota)
		expectGrant(t, s, n, 0, api.OK)
		pages := s.Pages()
		if len(pages) != n || pages[0] != 0 || pages[n-1] != n-1 {
			t.Errorf("Grant(%d): %d pages", n, len(pages))
		}
	}
}

func TestGrantArgGoesAheadOfQuota(t *testing.T) {
	s := arena(t, 0)
	expectGrant(t, s, 0, 0, api.ErrArg)
	expectGrant(t, s, api.MaxPages+1, 0, api.ErrArg)
	expectGrant(t, s, 1, 0, api.ErrQuota)
	expectGrant(t, s, api.MaxPages, 0, api.ErrQuota)
}

func TestGrantKeepsToQuota(t *testing.T) {
	for _, c := range []struct{ quota, pages int }{{0, 0}, {1, 0}, {63, 0}, {64, 1}, {127, 1}, {128, 2}, {api.MaxQuota - 1, api.MaxPages - 1}, {api.MaxQuota, api.MaxPages}} {
		s := arena(t, c.quota)
		if c.pages < api.MaxPages {
			expectGrant(t, s, c.pages+1, 0, api.ErrQuota)
		}
		if c.pages > 0 {
			expectGrant(t, s, c.pages, 0, api.OK)
		}
		expectGrant(t, s, 1, 0, api.ErrQuota)
		expect(t, "Claim beyond the quota", s.Claim(api.LastPage), api.ErrQuota)
		if len(s.Pages()) != c.pages {
			t.Errorf("quota %d: %d pages, want %d", c.quota, len(s.Pages()), c.pages)
		}
	}
}

func TestGrantTakesLeastRun(t *testing.T) {
	// Free: 1, 3 and 4, 6 to 8, 10 to 13, and all from 15 on.
	taken := []int{0, 2, 5, 9, 14}
	for _, c := range []struct{ n, page int }{{1, 1}, {2, 3}, {3, 6}, {4, 10}, {5, 15}, {6, 15}} {
		s := arena(t, api.MaxQuota, taken...)
		expectGrant(t, s, c.n, c.page, api.OK)
		for k := range c.n {
			if !s.Is(c.page + k) {
				t.Errorf("Grant(%d): page %d is not granted", c.n, c.page+k)
			}
		}
		if len(s.Pages()) != len(taken)+c.n {
			t.Errorf("Grant(%d): pages %v", c.n, s.Pages())
		}
	}
}

func TestGrantTakesReleasedPages(t *testing.T) {
	s := arena(t, 64*8)
	expectGrant(t, s, 8, 0, api.OK)
	expect(t, "Release", s.Release(2, 1), api.OK)
	expect(t, "Release", s.Release(5, 2), api.OK)
	expectGrant(t, s, 2, 5, api.OK)
	expectGrant(t, s, 1, 2, api.OK)
	expectGrant(t, s, 1, 0, api.ErrQuota)
}

// claimComb leaves gaps of 511 pages alone, but for what the last claim leaves.
func claimComb(t *testing.T, teeth int) *Slab {
	t.Helper()
	s := arena(t, api.MaxQuota)
	for k := range teeth {
		expect(t, "Claim", s.Claim(k*512+511), api.OK)
	}
	return s
}

func TestGrantWithoutRun(t *testing.T) {
	s := claimComb(t, (api.LastPage+1)/512)
	expectGrant(t, s, 512, 0, api.ErrQuota)
	if got := s.Pages(); len(got) != (api.LastPage+1)/512 {
		t.Errorf("%d pages", len(got))
	}
	expectGrant(t, s, 511, 0, api.OK)
}

func TestGrantOfLastRun(t *testing.T) {
	s := claimComb(t, (api.LastPage+1)/512-1)
	expectGrant(t, s, 513, 0, api.ErrQuota)
	expectGrant(t, s, 512, api.LastPage-511, api.OK)
	if !s.Is(api.LastPage) || s.Is(api.LastPage+1) {
		t.Error("the last run is not that at the end")
	}
}

func TestRelease(t *testing.T) {
	s := arena(t, 640, 0, 1, 2, 4, api.LastPage-1, api.LastPage)
	was := stateOf(t, s)
	for _, c := range []struct {
		page, n int
		want    api.Errno
	}{
		{0, 0, api.ErrArg}, {0, -1, api.ErrArg}, {0, math.MinInt, api.ErrArg}, {0, api.MaxPages + 1, api.ErrArg}, {0, math.MaxInt, api.ErrArg},
		{-1, 1, api.ErrArg}, {-1, 2, api.ErrArg}, {math.MinInt, 1, api.ErrArg}, {math.MinInt, api.MaxPages, api.ErrArg},
		{api.LastPage + 1, 1, api.ErrArg}, {api.LastPage, 2, api.ErrArg}, {api.LastPage - 1, 3, api.ErrArg},
		{math.MaxInt, 1, api.ErrArg}, {math.MaxInt, 2, api.ErrArg}, {math.MaxInt, api.MaxPages, api.ErrArg},
		{api.LastPage + 2, 0, api.ErrArg}, {3, 0, api.ErrArg},
		{3, 1, api.ErrNone}, {2, 2, api.ErrNone}, {0, 5, api.ErrNone}, {3, 2, api.ErrNone}, {5, 1, api.ErrNone},
		{0, api.MaxPages, api.ErrNone}, {api.LastPage - 2, 3, api.ErrNone}, {api.LastPage - api.MaxPages + 1, api.MaxPages, api.ErrNone},
	} {
		if e := s.Release(c.page, c.n); e != c.want {
			t.Errorf("Release(%d, %d): %d, want %d", c.page, c.n, e, c.want)
		}
		expectState(t, s, was)
	}
	expect(t, "Release(1, 2)", s.Release(1, 2), api.OK)
	expect(t, "Release(LastPage - 1, 2)", s.Release(api.LastPage-1, 2), api.OK)
	if got := s.Pages(); !slices.Equal(got, []int{0, 4}) {
		t.Errorf("Pages: %v", got)
	}
	expect(t, "Release once more", s.Release(1, 1), api.ErrNone)
}

func TestReleaseOfAll(t *testing.T) {
	s := arena(t, api.MaxQuota)
	expectGrant(t, s, api.MaxPages, 0, api.OK)
	expect(t, "Release", s.Release(0, api.MaxPages), api.OK)
	if len(s.Pages()) != 0 {
		t.Errorf("%d pages", len(s.Pages()))
	}
	expectGrant(t, s, api.MaxPages, 0, api.OK)
}

func TestClaim(t *testing.T) {
	s := arena(t, 64*3, 0, api.LastPage)
	was := stateOf(t, s)
	for _, c := range []struct {
		page int
		want api.Errno
	}{
		{-1, api.ErrArg}, {math.MinInt, api.ErrArg}, {api.LastPage + 1, api.ErrArg}, {math.MaxInt, api.ErrArg},
		{0, api.ErrThere}, {api.LastPage, api.ErrThere},
	} {
		if e := s.Claim(c.page); e != c.want {
			t.Errorf("Claim(%d): %d, want %d", c.page, e, c.want)
		}
		expectState(t, s, was)
	}
	expect(t, "Claim(7)", s.Claim(7), api.OK)
	for k := range api.PageWords {
		expectRead(t, s, 7*64+k, 0, api.OK)
	}
}

func TestClaimErrorsInOrder(t *testing.T) {
	s := arena(t, 64*2+63, 1, 2)
	was := stateOf(t, s)
	expect(t, "Claim(-1)", s.Claim(-1), api.ErrArg)
	expect(t, "Claim(1)", s.Claim(1), api.ErrThere)
	expect(t, "Claim(3)", s.Claim(3), api.ErrQuota)
	expectState(t, s, was)
}

func TestGrantGoesAroundClaims(t *testing.T) {
	s := arena(t, 640, 1)
	expectGrant(t, s, 2, 2, api.OK)
	expectGrant(t, s, 1, 0, api.OK)
	if got := s.Pages(); !slices.Equal(got, []int{0, 1, 2, 3}) {
		t.Errorf("Pages: %v", got)
	}
	expectRead(t, s, 64, mark(64), api.OK)
}

// P1.3

func TestReadAndWriteEdges(t *testing.T) {
	s := arena(t, 640, 0, 2, api.LastPage)
	was := stateOf(t, s)
	for _, c := range []struct {
		addr int
		want api.Errno
	}{
		{-1, api.ErrArg}, {-64, api.ErrArg}, {math.MinInt, api.ErrArg}, {lastAddr + 1, api.ErrArg}, {math.MaxInt, api.ErrArg},
		{64, api.ErrNone}, {127, api.ErrNone}, {192, api.ErrNone}, {lastAddr - 64, api.ErrNone},
	} {
		expectRead(t, s, c.addr, 0, c.want)
		if e := s.Write(c.addr, 9); e != c.want {
			t.Errorf("Write(%d): %d, want %d", c.addr, e, c.want)
		}
		expectState(t, s, was)
	}
	for _, a := range []int{0, 1, 63, 128, 191, lastAddr - 63, lastAddr} {
		expectRead(t, s, a, mark(a), api.OK)
		for _, w := range []uint64{0, 1, 1 << 63, math.MaxUint64} {
			expect(t, "Write", s.Write(a, w), api.OK)
			expectRead(t, s, a, w, api.OK)
			was.words[a] = w
			expectState(t, s, was)
		}
	}
}

func TestMoveErrors(t *testing.T) {
	s := arena(t, 640, 0, 1, 3, api.LastPage)
	was := stateOf(t, s)
	for _, c := range []struct {
		to, from, n int
		want        api.Errno
	}{
		{-1, 0, 1, api.ErrArg}, {0, -1, 1, api.ErrArg}, {-1, 0, 0, api.ErrArg}, {0, -1, 0, api.ErrArg},
		{math.MinInt, 0, 1, api.ErrArg}, {0, math.MinInt, api.MaxQuota, api.ErrArg},
		{lastAddr + 1, 0, 0, api.ErrArg}, {0, lastAddr + 1, 0, api.ErrArg}, {lastAddr + 1, 0, 1, api.ErrArg}, {0, lastAddr + 1, 1, api.ErrArg},
		{lastAddr, 0, 2, api.ErrArg}, {0, lastAddr, 2, api.ErrArg}, {lastAddr - 62, 0, 64, api.ErrArg}, {0, lastAddr - 62, 64, api.ErrArg},
		{math.MaxInt, 0, 1, api.ErrArg}, {0, math.MaxInt, api.MaxQuota, api.ErrArg}, {math.MaxInt, math.MaxInt, math.MaxInt, api.ErrArg},
		{0, 64, -1, api.ErrArg}, {0, 64, math.MinInt, api.ErrArg}, {0, 64, api.MaxQuota + 1, api.ErrArg}, {0, 64, math.MaxInt, api.ErrArg},
		{128, -1, 1, api.ErrArg}, {-1, 128, 1, api.ErrArg}, {128, lastAddr, 2, api.ErrArg}, {lastAddr, 128, 2, api.ErrArg},
		{128, 0, 1, api.ErrNone}, {0, 128, 1, api.ErrNone}, {191, 0, 1, api.ErrNone}, {0, 191, 1, api.ErrNone},
		{127, 0, 2, api.ErrNone}, {0, 127, 2, api.ErrNone}, {0, 64, 65, api.ErrNone}, {64, 0, 65, api.ErrNone},
		{0, 191, 2, api.ErrNone}, {191, 0, 2, api.ErrNone}, {64, 64, 192, api.ErrNone},
		{0, 64, api.MaxQuota, api.ErrNone}, {lastAddr - 64, lastAddr - 64, 65, api.ErrNone},
		{lastAddr - api.MaxQuota + 1, 0, api.MaxQuota, api.ErrNone}, {lastAddr - api.MaxQuota + 2, 0, api.MaxQuota, api.ErrArg},
	} {
		if e := s.Move(c.to, c.from, c.n); e != c.want {
			t.Errorf("Move(%d, %d, %d): %d, want %d", c.to, c.from, c.n, e, c.want)
		}
		expectState(t, s, was)
	}
}

func TestMoveOfNoWords(t *testing.T) {
	s := arena(t, 640, 0)
	was := stateOf(t, s)
	for _, c := range [][2]int{{0, 0}, {0, 5}, {70, 0}, {0, 70}, {64, 128}, {lastAddr, 0}, {0, lastAddr}, {lastAddr, lastAddr}} {
		if e := s.Move(c[0], c[1], 0); e != api.OK {
			t.Errorf("Move(%d, %d, 0): %d", c[0], c[1], e)
		}
		expectState(t, s, was)
	}
}

func TestMove(t *testing.T) {
	pages := []int{0, 1, 2, 3, 4, 5, api.LastPage - 1, api.LastPage}
	for _, c := range [][3]int{
		{0, 1, 1}, {5, 5, 9}, {0, 1, 200}, {1, 0, 200}, {64, 0, 128}, {0, 64, 128}, {3, 130, 70}, {130, 3, 70},
		{63, 64, 1}, {64, 63, 2}, {0, 0, 384}, {1, 0, 383}, {0, 1, 383}, {320, 0, 64}, {10, 100, 64}, {100, 10, 65},
		{lastAddr, 0, 1}, {0, lastAddr, 1}, {lastAddr - 127, 7, 128}, {7, lastAddr - 127, 128}, {lastAddr - 126, lastAddr - 127, 127},
	} {
		s := arena(t, 64*8, pages...)
		want := stateOf(t, s)
		for k := range c[2] {
			want.words[c[0]+k] = mark(c[1] + k)
		}
		if e := s.Move(c[0], c[1], c[2]); e != api.OK {
			t.Errorf("Move%v: %d", c, e)
		}
		expectState(t, s, want)
	}
}

func TestMoveOfAll(t *testing.T) {
	s := arena(t, api.MaxQuota)
	expectGrant(t, s, api.MaxPages, 0, api.OK)
	for a := range api.MaxQuota {
		s.Write(a, mark(a))
	}
	expect(t, "Move of all", s.Move(0, 0, api.MaxQuota), api.OK)
	expect(t, "Move of all but one", s.Move(1, 0, api.MaxQuota-1), api.OK)
	expectRead(t, s, 0, mark(0), api.OK)
	for a := 1; a < api.MaxQuota; a++ {
		if w, e := s.Read(a); w != mark(a-1) || e != api.OK {
			t.Fatalf("Read(%d): %d, %d", a, w, e)
		}
	}
}

func TestArenaThatIsNotThere(t *testing.T) {
	refused, _ := New(-1)
	for _, s := range []*Slab{nil, {}, refused} {
		for _, n := range []int{math.MinInt, -1, 0, 1, api.MaxPages + 1, math.MaxInt} {
			expectGrant(t, s, n, 0, api.ErrNil)
			expect(t, "Release", s.Release(n, n), api.ErrNil)
			expect(t, "Claim", s.Claim(n), api.ErrNil)
			expectRead(t, s, n, 0, api.ErrNil)
			expect(t, "Write", s.Write(n, 1), api.ErrNil)
			expect(t, "Move", s.Move(n, n, n), api.ErrNil)
			if s.Is(n) {
				t.Errorf("Is(%d) of no arena", n)
			}
		}
		if s.Quota() != 0 || len(s.Pages()) != 0 {
			t.Error("no arena has a quota, or pages")
		}
	}
}

// P1.4

func TestPagesComeBackEmpty(t *testing.T) {
	s := arena(t, 64*4, 0, 1, 2)
	expect(t, "Release", s.Release(0, 3), api.OK)
	expectGrant(t, s, 2, 0, api.OK)
	expect(t, "Claim", s.Claim(2), api.OK)
	for a := range 64 * 3 {
		expectRead(t, s, a, 0, api.OK)
	}
}

func TestPagesShareNoWords(t *testing.T) {
	s := arena(t, 64*4)
	expectGrant(t, s, 3, 0, api.OK)
	expect(t, "Claim", s.Claim(3), api.OK)
	want := stateOf(t, s)
	for a := range 64 * 4 {
		expect(t, "Write", s.Write(a, mark(a)), api.OK)
		want.words[a] = mark(a)
		expectState(t, s, want)
	}
	expect(t, "Release", s.Release(1, 1), api.OK)
	want.pages = []int{0, 2, 3}
	for a := 64; a < 128; a++ {
		delete(want.words, a)
	}
	expectState(t, s, want)
}
