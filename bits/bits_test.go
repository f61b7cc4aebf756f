package bits

import (
	"math"
	"testing"

	"loft/api"
)

// flags is a set, one number at a time: what the word's answers are held against.
type flags [64]bool

// flagsOf takes a word apart by halving, not by shifts as the package has them.
func flagsOf(w uint64) flags {
	var f flags
	for k := range f {
		f[k] = w%2 == 1
		w /= 2
	}
	return f
}

// word is flagsOf, back.
func (f flags) word() uint64 {
	var w uint64
	for k := len(f) - 1; k >= 0; k-- {
		w *= 2
		if f[k] {
			w++
		}
	}
	return w
}

// upTo tells how many numbers n stands for.
func upTo(n int) int {
	if n < 0 {
		return 0
	}
	if n > 64 {
		return 64
	}
	return n
}

func (f flags) free(n int) int {
	for k := 0; k < upTo(n); k++ {
		if !f[k] {
			return k
		}
	}
	return -1
}

func (f flags) last(n int) int {
	for k := upTo(n) - 1; k >= 0; k-- {
		if f[k] {
			return k
		}
	}
	return -1
}

func (f flags) count(n int) int {
	c := 0
	for k := 0; k < upTo(n); k++ {
		if f[k] {
			c++
		}
	}
	return c
}

// words are sets of all sorts: the empty one, the full one, runs from either end, one number, all but one, and thrown ones.
func words() []uint64 {
	row := []uint64{0, math.MaxUint64, 0x5555555555555555, 0xaaaaaaaaaaaaaaaa, 0x00000000ffffffff, 0xffffffff00000000, 5, 7}
	low := uint64(0)
	for k := range 64 {
		var one flags
		one[k] = true
		low += one.word()
		row = append(row, one.word(), math.MaxUint64-one.word(), low, math.MaxUint64-low)
	}
	thrown := uint64(88172645463325252)
	for range 200 {
		thrown ^= thrown << 13
		thrown ^= thrown >> 7
		thrown ^= thrown << 17
		row = append(row, thrown)
	}
	return row
}

// wrong are numbers that no set has.
func wrong() []int {
	return []int{
		-1, -2, -63, -64, -65, -1 << 31, -1 << 32, math.MinInt, math.MinInt + 1,
		64, 65, 127, 128, 129, 255, 256, 1 << 31, 1 << 32, 1<<32 + 5, math.MaxInt - 1, math.MaxInt,
	}
}

// counts are all that n may be, and what is beyond.
func counts() []int {
	row := wrong()
	for n := range 65 {
		row = append(row, n)
	}
	return row
}

func expectWord(t *testing.T, call string, w uint64, k int, got uint64, e api.Errno, want uint64, wantE api.Errno) {
	t.Helper()
	if got != want || e != wantE {
		t.Errorf("%s(%#x, %d): %#x, %d; want %#x, %d", call, w, k, got, e, want, wantE)
	}
}

func expectSet(t *testing.T, w uint64, k int, want uint64, wantE api.Errno) {
	t.Helper()
	got, e := Set(w, k)
	expectWord(t, "Set", w, k, got, e, want, wantE)
}

func expectClear(t *testing.T, w uint64, k int, want uint64, wantE api.Errno) {
	t.Helper()
	got, e := Clear(w, k)
	expectWord(t, "Clear", w, k, got, e, want, wantE)
}

func expectHas(t *testing.T, w uint64, k int, want bool) {
	t.Helper()
	if got := Has(w, k); got != want {
		t.Errorf("Has(%#x, %d): %t", w, k, got)
	}
}

func expectNumber(t *testing.T, call string, w uint64, n, got, want int) {
	t.Helper()
	if got != want {
		t.Errorf("%s(%#x, %d): %d, want %d", call, w, n, got, want)
	}
}

func expectFull(t *testing.T, n int, want uint64) {
	t.Helper()
	if got := Full(n); got != want {
		t.Errorf("Full(%d): %#x, want %#x", n, got, want)
	}
}

func TestExamples(t *testing.T) {
	expectSet(t, 5, 1, 7, api.OK)
	expectNumber(t, "Free", 7, 3, Free(7, 3), -1)
	expectNumber(t, "Free", 7, 4, Free(7, 4), 3)
	expectNumber(t, "Last", 5, 64, Last(5, 64), 2)
	expectNumber(t, "Count", 7, 2, Count(7, 2), 2)
	expectFull(t, 3, 7)
	expectSet(t, 0, 64, 0, api.ErrArg)
}

// P2.1

func TestHasSetClearAtTheEnds(t *testing.T) {
	const top = 1 << 63
	expectHas(t, 0, 0, false)
	expectHas(t, 1, 0, true)
	expectHas(t, 1, 63, false)
	expectHas(t, top, 63, true)
	expectHas(t, top, 0, false)
	expectSet(t, 0, 0, 1, api.OK)
	expectSet(t, 0, 63, top, api.OK)
	expectSet(t, top, 63, top, api.OK)
	expectClear(t, 1, 0, 0, api.OK)
	expectClear(t, top, 63, 0, api.OK)
	expectClear(t, 0, 63, 0, api.OK)
	expectClear(t, math.MaxUint64, 63, math.MaxUint64-top, api.OK)
}

func TestHasSetClearOfAllNumbers(t *testing.T) {
	for _, w := range words() {
		f := flagsOf(w)
		for k := range 64 {
			with, without := f, f
			with[k], without[k] = true, false
			expectHas(t, w, k, f[k])
			expectSet(t, w, k, with.word(), api.OK)
			expectClear(t, w, k, without.word(), api.OK)
		}
	}
}

func TestHasSetClearOfWrongNumbers(t *testing.T) {
	for _, w := range words() {
		for _, k := range wrong() {
			expectHas(t, w, k, false)
			expectSet(t, w, k, 0, api.ErrArg)
			expectClear(t, w, k, 0, api.ErrArg)
		}
	}
}

// P2.2

func TestEmptyAndFullSets(t *testing.T) {
	for _, c := range []struct{ n, of int }{
		{math.MinInt, 0}, {-1, 0}, {0, 0}, {1, 1}, {2, 2}, {63, 63}, {64, 64}, {65, 64}, {128, 64}, {math.MaxInt, 64},
	} {
		wantFree := 0
		if c.of == 0 {
			wantFree = -1
		}
		expectNumber(t, "Free", 0, c.n, Free(0, c.n), wantFree)
		expectNumber(t, "Last", 0, c.n, Last(0, c.n), -1)
		expectNumber(t, "Count", 0, c.n, Count(0, c.n), 0)
		expectNumber(t, "Free", math.MaxUint64, c.n, Free(math.MaxUint64, c.n), -1)
		expectNumber(t, "Last", math.MaxUint64, c.n, Last(math.MaxUint64, c.n), c.of-1)
		expectNumber(t, "Count", math.MaxUint64, c.n, Count(math.MaxUint64, c.n), c.of)
	}
}

func TestFullAtTheEnds(t *testing.T) {
	for _, n := range []int{math.MinInt, -64, -1, 0} {
		expectFull(t, n, 0)
	}
	expectFull(t, 1, 1)
	expectFull(t, 63, math.MaxUint64/2)
	for _, n := range []int{64, 65, 128, 1 << 32, math.MaxInt} {
		expectFull(t, n, math.MaxUint64)
	}
}

func TestNumbersBeyondNDoNotCount(t *testing.T) {
	const w = 1<<3 | 1<<5 | 1<<63
	expectNumber(t, "Last", w, 63, Last(w, 63), 5)
	expectNumber(t, "Last", w, 64, Last(w, 64), 63)
	expectNumber(t, "Last", w, 5, Last(w, 5), 3)
	expectNumber(t, "Last", w, 3, Last(w, 3), -1)
	expectNumber(t, "Count", w, 63, Count(w, 63), 2)
	expectNumber(t, "Count", w, 5, Count(w, 5), 1)
	expectNumber(t, "Free", math.MaxUint64/2, 63, Free(math.MaxUint64/2, 63), -1)
	expectNumber(t, "Free", math.MaxUint64/2, 64, Free(math.MaxUint64/2, 64), 63)
}

func TestSetsOfAllN(t *testing.T) {
	for _, w := range words() {
		f := flagsOf(w)
		for _, n := range counts() {
			expectNumber(t, "Free", w, n, Free(w, n), f.free(n))
			expectNumber(t, "Last", w, n, Last(w, n), f.last(n))
			expectNumber(t, "Count", w, n, Count(w, n), f.count(n))
		}
	}
}

func TestFullOfAllN(t *testing.T) {
	for _, n := range counts() {
		var f flags
		for k := range upTo(n) {
			f[k] = true
		}
		expectFull(t, n, f.word())
	}
}

// P2.3

func TestFreeOfSetOfFreeIsGreater(t *testing.T) {
	for _, w := range words() {
		for _, n := range counts() {
			k := Free(w, n)
			if k == -1 {
				continue
			}
			more, e := Set(w, k)
			if next := Free(more, n); e != api.OK || next != -1 && next <= k {
				t.Errorf("Free(%#x, %d): %d; set: %#x, %d; Free: %d", w, n, k, more, e, next)
			}
		}
	}
}

func TestFreeFillsASet(t *testing.T) {
	w := uint64(0)
	for k := range 64 {
		expectNumber(t, "Free", w, 64, Free(w, 64), k)
		w, _ = Set(w, k)
	}
	expectNumber(t, "Free", w, 64, Free(w, 64), -1)
}

func TestCountOfSetIsOneMore(t *testing.T) {
	for _, w := range words() {
		for k := range 64 {
			more := 1
			if Has(w, k) {
				more = 0
			}
			with, _ := Set(w, k)
			expectNumber(t, "Count", with, 64, Count(with, 64), Count(w, 64)+more)
			expectNumber(t, "Count", with, k+1, Count(with, k+1), Count(w, k+1)+more)
			expectNumber(t, "Count", with, k, Count(with, k), Count(w, k))
		}
	}
}

func TestFullHasAllOfThem(t *testing.T) {
	for _, n := range counts() {
		w := Full(n)
		expectNumber(t, "Count", w, n, Count(w, n), upTo(n))
		expectNumber(t, "Count", w, 64, Count(w, 64), upTo(n))
		expectNumber(t, "Free", w, n, Free(w, n), -1)
		expectNumber(t, "Last", w, n, Last(w, n), upTo(n)-1)
	}
}
