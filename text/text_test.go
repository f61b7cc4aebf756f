package text

import (
	"math"
	"slices"
	"strings"
	"testing"

	"loft/api"
)

// show tells a text, or words, by their beginning alone.
func show[T any](l []T) []T {
	return l[:min(len(l), 12)]
}

func expectWords(t *testing.T, s string, want []uint64, wantE api.Errno) {
	t.Helper()
	if l, e := Words(s); !slices.Equal(l, want) || e != wantE {
		t.Errorf("Words of %d bytes %x: %d words %x, %v; want %d words %x, %v", len(s), show([]byte(s)), len(l), show(l), e, len(want), show(want), wantE)
	}
}

func expectOf(t *testing.T, l []uint64, want string, wantE api.Errno) {
	t.Helper()
	if s, e := Of(l); s != want || e != wantE {
		t.Errorf("Of %d words %x: %d bytes %x, %v; want %d bytes %x, %v", len(l), show(l), len(s), show([]byte(s)), e, len(want), show([]byte(want)), wantE)
	}
}

func expectForm(t *testing.T, l []uint64) {
	t.Helper()
	expectOf(t, l, "", api.ErrForm)
}

// P8.1: the chapter's examples.
func TestExamples(t *testing.T) {
	expectWords(t, "abc", []uint64{3, 0x6162630000000000}, api.OK)
	expectOf(t, []uint64{3, 0x6162630000000000}, "abc", api.OK)
	expectOf(t, []uint64{0}, "", api.OK)
	expectForm(t, []uint64{1, 1})
	expectForm(t, []uint64{2, 0x6162ff0000000000})
	if c := Compare("ab", "abc"); c != -1 {
		t.Error("Compare of ab and abc:", c)
	}
}

// P8.1: what Words answers, written out.
func TestWordsWrittenOut(t *testing.T) {
	expectWords(t, "", []uint64{0}, api.OK)
	expectWords(t, "a", []uint64{1, 0x6100000000000000}, api.OK)
	expectWords(t, "\x00", []uint64{1, 0}, api.OK)
	expectWords(t, "\xff", []uint64{1, 0xff00000000000000}, api.OK)
	expectWords(t, "abcdefg", []uint64{7, 0x6162636465666700}, api.OK)
	expectWords(t, "abcdefgh", []uint64{8, 0x6162636465666768}, api.OK)
	expectWords(t, "abcdefghi", []uint64{9, 0x6162636465666768, 0x6900000000000000}, api.OK)
	expectWords(t, "\x01\x02\x03\x04\x05\x06\x07\x08\x09\x0a\x0b\x0c\x0d\x0e\x0f\x10", []uint64{16, 0x0102030405060708, 0x090a0b0c0d0e0f10}, api.OK)
	expectWords(t, "ä€", []uint64{5, 0xc3a4e282ac000000}, api.OK)
	expectWords(t, strings.Repeat("\xff", 8), []uint64{8, math.MaxUint64}, api.OK)
	expectWords(t, strings.Repeat("\x00", 9), []uint64{9, 0, 0}, api.OK)
}

// P8.1, P8.3: the words of texts of every length, and their way back.
func TestWordsOfEveryLength(t *testing.T) {
	for n := range 1001 {
		for _, s := range textsOf(n) {
			want := plainWords(s)
			expectWords(t, s, want, api.OK)
			expectOf(t, want, s, api.OK)
			l, _ := Words(s)
			if len(l) != Many(n) {
				t.Error("Words of", n, "bytes are", len(l), "not", Many(n))
			}
			expectOf(t, l, s, api.OK)
		}
	}
}

// P8.1, P8.3: every byte at every place of a word, among bytes of 0 and of 255.
func TestEveryByteAtEveryPlace(t *testing.T) {
	for _, n := range []int{1, 7, 8, 9, 16, 17} {
		for k := range n {
			for b := range 256 {
				for _, fill := range []string{"\x00", "\xff"} {
					s := strings.Repeat(fill, k) + string([]byte{byte(b)}) + strings.Repeat(fill, n-1-k)
					expectWords(t, s, plainWords(s), api.OK)
					expectOf(t, plainWords(s), s, api.OK)
				}
			}
		}
	}
}

// P8.1: bytes of 0 and of 255 at every place of the longest texts.
func TestMarkAtEveryPlace(t *testing.T) {
	for _, n := range []int{999, 1000} {
		for k := range n {
			for _, pair := range []string{"\x00\xff", "\xff\x00"} {
				s := strings.Repeat(pair[:1], k) + pair[1:] + strings.Repeat(pair[:1], n-1-k)
				expectWords(t, s, plainWords(s), api.OK)
				expectOf(t, plainWords(s), s, api.OK)
			}
		}
	}
}

// P8.1: texts that are too long have no words, nil ones.
func TestTooLong(t *testing.T) {
	for _, n := range []int{1001, 1002, 1007, 1008, 1009, 1024, 2000, 2001, 1 << 16, 1<<16 + 3, 1 << 20, 1 << 24} {
		for _, b := range []string{"\x00", "a", "\xff"} {
			s := strings.Repeat(b, n)
			expectWords(t, s, nil, api.ErrLong)
			if l, _ := Words(s); l != nil {
				t.Error("Words of", n, "bytes are not nil")
			}
		}
	}
}

// P8.1: no words at all.
func TestOfNoWords(t *testing.T) {
	expectForm(t, nil)
	expectForm(t, []uint64{})
	expectForm(t, []uint64{3, 0x6162630000000000}[:0])
}

// P8.1: a first word that no text has, with as many words behind it as its lower bits, or none of them, would ask for.
func TestOfWrongFirstWord(t *testing.T) {
	heads := []uint64{
		1001, 1002, 1007, 1008, 1009, 1023, 1024, 2000, 1 << 16, 1<<16 + 3, 1<<31 - 1, 1 << 31, 1<<31 + 3,
		math.MaxUint32, 1 << 32, 1<<32 + 3, 1<<32 + 1000, 1 << 61, 1<<61 + 1, math.MaxInt64 - 7, math.MaxInt64, 1 << 63, 1<<63 + 1, 1<<63 + 3,
		math.MaxUint64 - 1000, math.MaxUint64 - 8, math.MaxUint64 - 7, math.MaxUint64 - 1, math.MaxUint64,
	}
	for _, head := range heads {
		for _, n := range []int{1, 2, 3, 126, 127, 128, 129, 252, 1000} {
			l := make([]uint64, n)
			l[0] = head
			expectForm(t, l)
		}
	}
}

// P8.1: words too many or too few, of texts of every length.
func TestOfWrongNumberOfWords(t *testing.T) {
	for n := range 1001 {
		l := plainWords(strings.Repeat("\x00", n))
		for k := range len(l) {
			expectForm(t, l[:k])
		}
		for _, more := range []int{1, 2, 125, 1000} {
			expectForm(t, append(slices.Clone(l), make([]uint64, more)...))
		}
		expectForm(t, append(slices.Clone(l), math.MaxUint64))
	}
}

// P8.1: the number of words by another one's first word: just those of the same number of words may be.
func TestOfWordsOfAnotherLength(t *testing.T) {
	for n := range 1001 {
		l := make([]uint64, Many(n))
		for _, head := range edges() {
			l[0] = uint64(head)
			if len(plainWords(strings.Repeat("a", head))) == len(l) {
				expectOf(t, l, strings.Repeat("\x00", head), api.OK)
			} else {
				expectForm(t, l)
			}
		}
	}
}

// P8.1: each bit of the last word: behind the text's bytes it may not be 1, among them it tells another text.
func TestOfEachBitOfTheLastWord(t *testing.T) {
	for n := 1; n <= 1000; n++ {
		for _, b := range []string{"\x00", "\xff"} {
			l := plainWords(strings.Repeat(b, n))
			last := len(l) - 1
			there := n - 8*(last-1) // bytes of the text in the last word
			for bit := range 64 {
				turned := slices.Clone(l)
				turned[last] ^= 1 << bit
				if bit < 64-8*there {
					expectForm(t, turned)
					continue
				}
				s, ok := plainOf(turned)
				if !ok || len(s) != n {
					t.Fatal("the model refuses bit", bit, "of", n, "bytes")
				}
				expectOf(t, turned, s, api.OK)
			}
		}
	}
}

// P8.1: no bit of the first word of the empty text counts as one behind its bytes.
func TestOfOneWord(t *testing.T) {
	expectOf(t, []uint64{0}, "", api.OK)
	for head := uint64(1); head <= 2000; head++ {
		expectForm(t, []uint64{head})
	}
	for bit := range 64 {
		expectForm(t, []uint64{1 << bit})
	}
}

// P8.3: Of takes just what Words makes, of thrown words, and Words is the way back.
func TestOfThrownWords(t *testing.T) {
	r := thrower(88172645463325252)
	taken, refused := 0, 0
	for range 200000 {
		l := make([]uint64, r.below(5))
		for k := range l {
			l[k] = r.next() << (8 * r.below(9)) // shifts of all 64 bits, too
		}
		if len(l) > 0 {
			l[0] = uint64(r.below(36))
		}
		want, ok := plainOf(l)
		if !ok {
			refused++
			expectForm(t, l)
			continue
		}
		taken++
		expectOf(t, l, want, api.OK)
		s, _ := Of(l)
		expectWords(t, s, l, api.OK)
	}
	if taken < 10000 || refused < 10000 {
		t.Error("too few of one sort are thrown:", taken, "taken,", refused, "refused")
	}
}

// P8.1: Many is the number of words that Words makes; of no length that a text has it is 0.
func TestMany(t *testing.T) {
	for n, want := range map[int]int{0: 1, 1: 2, 7: 2, 8: 2, 9: 3, 16: 3, 17: 4, 992: 125, 993: 126, 999: 126, 1000: 126} {
		if got := Many(n); got != want {
			t.Error("Many of", n, "is", got, "not", want)
		}
	}
	for n := range 1001 {
		if got, want := Many(n), len(plainWords(strings.Repeat("a", n))); got != want {
			t.Error("Many of", n, "is", got, "not", want)
		}
	}
	for _, n := range []int{
		1001, 1002, 1007, 1008, 1024, 2000, 1 << 16, 1<<31 - 1, 1 << 31, 1 << 32, 1<<32 + 3, 1 << 62, math.MaxInt - 8, math.MaxInt - 7, math.MaxInt - 1, math.MaxInt,
		-1, -2, -7, -8, -9, -1000, -1001, -1 << 31, -1 << 32, -1<<32 + 3, -1 << 62, math.MinInt + 7, math.MinInt + 1, math.MinInt,
	} {
		if got := Many(n); got != 0 {
			t.Error("Many of", n, "is", got)
		}
	}
}

// What is handed in is neither changed nor kept, nor what is behind it looked at.
func TestOfLeavesItsWords(t *testing.T) {
	for _, s := range []string{"", "a", "abcdefg", "abcdefgh", "abcdefghi", strings.Repeat("z", 1000)} {
		n := Many(len(s))
		room := append(plainWords(s), math.MaxUint64, 7, 0)
		before := slices.Clone(room)
		expectOf(t, room[:n], s, api.OK)
		expectForm(t, room[:n-1])
		expectForm(t, room[:n+1])
		if !slices.Equal(room, before) {
			t.Error("Of changes its words of", len(s), "bytes")
		}
		got, _ := Of(room[:n])
		clear(room)
		if got != s {
			t.Error("Of keeps its words of", len(s), "bytes")
		}
	}
}

// Each answer is new memory, and hangs on the text alone.
func TestWordsAreNew(t *testing.T) {
	for _, n := range edges() {
		s := strings.Repeat("b", n)
		a, _ := Words(s)
		b, _ := Words(s)
		grown := append(a, 1, 2, 3)
		clear(grown)
		clear(a)
		if !slices.Equal(b, plainWords(s)) {
			t.Error("two answers of", n, "bytes share memory")
		}
		expectWords(t, s, plainWords(s), api.OK)
	}
}
