package class

import (
	"math"
	"testing"

	"loft/api"
)

// wantSizes and wantSlots are the document's, written out: the package works them out by a rule.
var (
	wantSizes = []int{2, 3, 4, 6, 9, 13, 19, 28}
	wantSlots = []int{31, 20, 15, 10, 6, 4, 3, 2}
)

// noClasses are numbers that no class has: one beyond each end, and ones far away, some of which would wrap round when they are reckoned with.
var noClasses = []int{-1, 8, -2, 9, 10, 62, 64, -8, 1 << 32, 1<<32 + 3, -1 << 32, math.MaxInt, math.MinInt, math.MaxInt32, math.MinInt32}

// noWords are numbers of words that no block may have.
var noWords = []int{0, 4001, -1, -28, 4002, 1 << 32, 1<<32 + 5, -1 << 32, math.MaxInt, math.MaxInt - 1, math.MinInt, math.MinInt + 1}

func TestClasses(t *testing.T) {
	if n := Classes(); n != 8 {
		t.Error("Classes:", n)
	}
}

func TestSizeOfEachClass(t *testing.T) {
	for c, want := range wantSizes {
		if size, e := Size(c); size != want || e != api.OK {
			t.Error("Size of", c, "is", size, e, "not", want)
		}
	}
}

func TestSlotsOfEachClass(t *testing.T) {
	for c, want := range wantSlots {
		if n, e := Slots(c); n != want || e != api.OK {
			t.Error("Slots of", c, "are", n, e, "not", want)
		}
	}
}

func TestPlaceOfEachSlot(t *testing.T) {
	for c, slots := range wantSlots {
		want := 2
		for slot := range slots {
			if at, e := Place(c, slot); at != want || e != api.OK {
				t.Error("Place of", c, slot, "is", at, e, "not", want)
			}
			want += wantSizes[c]
		}
	}
}

func TestNoSuchClass(t *testing.T) {
	for _, c := range noClasses {
		if size, e := Size(c); size != 0 || e != api.ErrArg {
			t.Error("Size of", c, "is", size, e)
		}
		if n, e := Slots(c); n != 0 || e != api.ErrArg {
			t.Error("Slots of", c, "are", n, e)
		}
		for _, slot := range []int{0, 1, -1, 30, math.MaxInt, math.MinInt} {
			if at, e := Place(c, slot); at != 0 || e != api.ErrArg {
				t.Error("Place of", c, slot, "is", at, e)
			}
		}
	}
}

func TestNoSuchSlot(t *testing.T) {
	for c, slots := range wantSlots {
		for _, slot := range []int{-1, slots, -2, slots + 1, 62, 64, 1 << 32, -1 << 32, 1 << 62, math.MaxInt, math.MinInt} {
			if at, e := Place(c, slot); at != 0 || e != api.ErrArg {
				t.Error("Place of", c, slot, "is", at, e)
			}
		}
	}
}

// leastClass looks through the sizes as written out, from the greatest one down.
func leastClass(words int) (int, bool) {
	class, small := 0, false
	for c := len(wantSizes) - 1; c >= 0; c-- {
		if wantSizes[c] >= words {
			class, small = c, true
		}
	}
	return class, small
}

func TestOfEachBlock(t *testing.T) {
	for words := 1; words <= 4000; words++ {
		class, small := leastClass(words)
		if c, s, e := Of(words); c != class || s != small || e != api.OK {
			t.Error("Of", words, "is", c, s, e, "not", class, small)
		}
	}
}

func TestPagesOfEachBlock(t *testing.T) {
	pages, room := 1, 62
	for words := 1; words <= 4000; words++ {
		if words > room {
			pages++
			room += 64
		}
		if p, e := Pages(words); p != pages || e != api.OK {
			t.Error("Pages of", words, "are", p, e, "not", pages)
		}
	}
}

func TestNoSuchBlock(t *testing.T) {
	for _, words := range noWords {
		if c, small, e := Of(words); c != 0 || small || e != api.ErrArg {
			t.Error("Of", words, "is", c, small, e)
		}
		if p, e := Pages(words); p != 0 || e != api.ErrArg {
			t.Error("Pages of", words, "are", p, e)
		}
	}
}

func TestOfAndPagesAtEdges(t *testing.T) {
	for _, x := range []struct {
		words, class int
		small        bool
		pages        int
	}{
		{1, 0, true, 1}, {2, 0, true, 1}, {3, 1, true, 1}, {4, 2, true, 1}, {5, 3, true, 1}, {6, 3, true, 1}, {7, 4, true, 1},
		{19, 6, true, 1}, {20, 7, true, 1}, {28, 7, true, 1},
		{29, 0, false, 1}, {31, 0, false, 1}, {32, 0, false, 1}, {61, 0, false, 1}, {62, 0, false, 1},
		{63, 0, false, 2}, {64, 0, false, 2}, {126, 0, false, 2}, {127, 0, false, 3}, {190, 0, false, 3}, {191, 0, false, 4},
		{3966, 0, false, 62}, {3967, 0, false, 63}, {3999, 0, false, 63}, {4000, 0, false, 63},
	} {
		if c, small, e := Of(x.words); c != x.class || small != x.small || e != api.OK {
			t.Error("Of", x.words, "is", c, small, e)
		}
		if p, e := Pages(x.words); p != x.pages || e != api.OK {
			t.Error("Pages of", x.words, "are", p, e)
		}
	}
}

func TestDocumentsExamples(t *testing.T) {
	if c, small, e := Of(1); c != 0 || !small || e != api.OK {
		t.Error(c, small, e)
	}
	if c, small, e := Of(5); c != 3 || !small || e != api.OK {
		t.Error(c, small, e)
	}
	if c, small, e := Of(28); c != 7 || !small || e != api.OK {
		t.Error(c, small, e)
	}
	if c, small, e := Of(29); c != 0 || small || e != api.OK {
		t.Error(c, small, e)
	}
	if c, small, e := Of(0); c != 0 || small || e != api.ErrArg {
		t.Error(c, small, e)
	}
	if p, e := Pages(29); p != 1 || e != api.OK {
		t.Error(p, e)
	}
	if p, e := Pages(63); p != 2 || e != api.OK {
		t.Error(p, e)
	}
	if n, e := Slots(0); n != 31 || e != api.OK {
		t.Error(n, e)
	}
	if n, e := Slots(7); n != 2 || e != api.OK {
		t.Error(n, e)
	}
	if at, e := Place(7, 1); at != 30 || e != api.OK {
		t.Error(at, e)
	}
}

func TestSizesRise(t *testing.T) {
	before := 0
	for c := range Classes() {
		size, e := Size(c)
		if e != api.OK || size <= before {
			t.Error("Size of", c, "is", size, e, "behind", before)
		}
		before = size
	}
	if before != 28 {
		t.Error("the last size is", before)
	}
}

func TestSmallBlocksFillMoreThanHalf(t *testing.T) {
	seen := 0
	for words := 1; words <= 4000; words++ {
		c, small, _ := Of(words)
		if !small {
			continue
		}
		seen++
		size, e := Size(c)
		fills := 2*words > size || words == 1 && size == 2
		if e != api.OK || words > size || !fills {
			t.Error("a block of", words, "in a place of", size, e)
		}
	}
	if seen != 28 {
		t.Error("small blocks are of", seen, "sizes")
	}
}

// slotWords lays the slots of a class on a page, word by word: how many slots have each.
func slotWords(t *testing.T, c int) map[int]int {
	taken := map[int]int{}
	size, _ := Size(c)
	slots, _ := Slots(c)
	for slot := range slots {
		at, e := Place(c, slot)
		if e != api.OK {
			t.Error("Place of", c, slot, e)
		}
		for w := at; w < at+size; w++ {
			taken[w]++
		}
	}
	return taken
}

func TestSlotsAreApartWithinPage(t *testing.T) {
	for c := range Classes() {
		size, _ := Size(c)
		taken := slotWords(t, c)
		for w, n := range taken {
			if w < 2 || w > 63 || n != 1 {
				t.Error("the word", w, "is of", n, "slots of the class", c)
			}
		}
		if left := 62 - len(taken); left < 0 || left >= size {
			t.Error("a page of the class", c, "has", left, "words left")
		}
	}
}

func TestSameCallsSameAnswers(t *testing.T) {
	for range 3 {
		if n := Classes(); n != 8 {
			t.Error("Classes:", n)
		}
		if size, e := Size(3); size != 6 || e != api.OK {
			t.Error("Size:", size, e)
		}
		if c, small, e := Of(7); c != 4 || !small || e != api.OK {
			t.Error("Of:", c, small, e)
		}
		if _, e := Size(8); e != api.ErrArg {
			t.Error("Size:", e)
		}
	}
}
