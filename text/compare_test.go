package text

import (
	"strings"
	"testing"
)

// expectCompare asks either way round.
func expectCompare(t *testing.T, a, b string, want int) {
	t.Helper()
	if c := Compare(a, b); c != want {
		t.Errorf("Compare of %x and %x: %d; want %d", show([]byte(a)), show([]byte(b)), c, want)
	}
	if c := Compare(b, a); c != -want {
		t.Errorf("Compare of %x and %x: %d; want %d", show([]byte(b)), show([]byte(a)), c, -want)
	}
}

// P8.2: answers written out.
func TestCompareWrittenOut(t *testing.T) {
	expectCompare(t, "", "", 0)
	expectCompare(t, "", "\x00", -1)
	expectCompare(t, "", "\xff", -1)
	expectCompare(t, "ab", "abc", -1)
	expectCompare(t, "ab", "ab\x00", -1)
	expectCompare(t, "abc", "b", -1)
	expectCompare(t, "abc", "abc", 0)
	expectCompare(t, "B", "a", -1)
	expectCompare(t, "10", "9", -1)
	expectCompare(t, "a\x00b", "a\x00c", -1)
	expectCompare(t, "a\x00", "a\x00\x00", -1)
	expectCompare(t, "\x7f", "\x80", -1)
	expectCompare(t, "z", "\xc3\xa4", -1)
	expectCompare(t, "\xfe\xff", "\xff", -1)
	expectCompare(t, "\xff", "\xff", 0)
	expectCompare(t, "abcdefgh", "abcdefgh\x00", -1)
	expectCompare(t, "abcdefg\xff", "abcdefh\x00", -1)
	expectCompare(t, "abcdefghz", "abcdefgzh", -1)
}

// P8.2: every byte against every other one, alone and behind equal bytes, whatever follows.
func TestCompareOfEveryTwoBytes(t *testing.T) {
	for x := range 256 {
		for y := x; y < 256; y++ {
			want := 0
			if x < y {
				want = -1
			}
			a, b := string([]byte{byte(x)}), string([]byte{byte(y)})
			expectCompare(t, a, b, want)
			expectCompare(t, "abcdefg"+a, "abcdefg"+b, want)
			if x < y {
				expectCompare(t, a+"\xff\xff", b+"\x00", want)
				expectCompare(t, a+"\xff\xff", b, want)
			}
		}
	}
}

// P8.2: the first byte that is another one decides, at every place; so does the length, where there is none.
func TestCompareAtEveryPlace(t *testing.T) {
	for _, fill := range []string{"\x00", "a", "\x80", "\xff"} {
		full := strings.Repeat(fill, 1000)
		expectCompare(t, full, strings.Repeat(fill, 1000), 0)
		for k := range 1000 {
			expectCompare(t, full[:k], full, -1)
			expectCompare(t, full[:k], full[:k+1], -1)
			if fill[0] < 255 {
				expectCompare(t, full, full[:k]+string([]byte{fill[0] + 1}), -1)
			}
			if fill[0] > 0 {
				expectCompare(t, full[:k]+string([]byte{fill[0] - 1})+full[k+1:], full, -1)
			}
		}
	}
}

// P8.2: byte strings that have no words are ordered by their bytes as well.
func TestCompareOfLongOnes(t *testing.T) {
	long := strings.Repeat("a", 1<<16)
	expectCompare(t, long, strings.Repeat("a", 1<<16), 0)
	expectCompare(t, long[:1000], long[:1001], -1)
	expectCompare(t, long, long+"a", -1)
	expectCompare(t, long+"a", long+"b", -1)
	expectCompare(t, long, "b", -1)
}

// orderTexts are texts that begin each other, that differ at one place, or at all.
func orderTexts() []string {
	row := []string{"", "\x00", "\x00\x00", "\x00\x01", "\x01", "a", "a\x00", "a\x00\x00", "a\xff", "ab", "abc", "abcdefg", "abcdefgh", "abcdefgh\x00", "abcdefghi", "abd", "b", "\x7f", "\x80", "\x80\x00", "\xc3\xa4", "\xfe\xff", "\xff", "\xff\x00", "\xff\xff"}
	for _, n := range []int{7, 8, 9, 999, 1000} {
		row = append(row, strings.Repeat("a", n), strings.Repeat("\x00", n), strings.Repeat("\xff", n), strings.Repeat("a", n-1)+"\xff")
	}
	r := thrower(2463534242)
	for range 25 {
		row = append(row, r.text(r.below(4)), r.text(r.below(20)))
	}
	return row
}

// P8.2, P8.3: it is total: of any two texts one is ahead, or they are the same, and it turns where they are turned.
func TestCompareIsTotal(t *testing.T) {
	row := orderTexts()
	for _, a := range row {
		for _, b := range row {
			want := plainCompare(a, b)
			expectCompare(t, a, b, want)
			if (Compare(a, b) == 0) != (a == b) {
				t.Errorf("Compare of %x and %x tells that they are the same, or not", show([]byte(a)), show([]byte(b)))
			}
		}
	}
}

// P8.3: it goes on: what is ahead of one that is ahead of a third is ahead of that.
func TestCompareGoesOn(t *testing.T) {
	row := orderTexts()
	for _, a := range row {
		for _, b := range row {
			if Compare(a, b) > 0 {
				continue
			}
			for _, c := range row {
				if Compare(b, c) > 0 {
					continue
				}
				want := min(Compare(a, b), Compare(b, c))
				if got := Compare(a, c); got != want {
					t.Errorf("Compare of %x and %x, by %x: %d; want %d", show([]byte(a)), show([]byte(c)), show([]byte(b)), got, want)
				}
			}
		}
	}
}

// P8.2: thrown texts of few different bytes, of which many begin alike.
func TestCompareOfThrownTexts(t *testing.T) {
	r := thrower(88172645463325252)
	few := "\x00\x01a\x7f\x80\xff"
	throw := func() string {
		b := make([]byte, r.below(6))
		for k := range b {
			b[k] = few[r.below(len(few))]
		}
		return string(b)
	}
	var told [3]int
	for range 50000 {
		begin := strings.Repeat("a", r.below(12))
		a, b := begin+throw(), begin+throw()
		want := plainCompare(a, b)
		told[want+1]++
		expectCompare(t, a, b, want)
	}
	for k, n := range told {
		if n < 500 {
			t.Error("too few of the answer", k-1, "are thrown:", n)
		}
	}
}
