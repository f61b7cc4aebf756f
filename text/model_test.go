package text

import (
	"encoding/binary"
	"slices"
	"strings"
)

// plainWords are a text's words: its bytes are filled up with 0 to whole words, and each of these is read at once, not by shifts as the package has them.
func plainWords(s string) []uint64 {
	row := []uint64{uint64(len(s))}
	full := s + strings.Repeat("\x00", (8-len(s)%8)%8)
	for len(full) > 0 {
		row = append(row, binary.BigEndian.Uint64([]byte(full[:8])))
		full = full[8:]
	}
	return row
}

// plainOf is plainWords, back: words are a text's where that text's words are these.
func plainOf(l []uint64) (string, bool) {
	if len(l) == 0 || l[0] > 1000 {
		return "", false
	}
	var all []byte
	for _, w := range l[1:] {
		all = binary.BigEndian.AppendUint64(all, w)
	}
	if uint64(len(all)) < l[0] {
		return "", false
	}
	s := string(all[:l[0]])
	return s, slices.Equal(plainWords(s), l)
}

// plainCompare goes from byte to byte; where none is left stands what is ahead of any byte.
func plainCompare(a, b string) int {
	for k := 0; ; k++ {
		x, y := -1, -1
		if k < len(a) {
			x = int(a[k])
		}
		if k < len(b) {
			y = int(b[k])
		}
		switch {
		case x < y:
			return -1
		case x > y:
			return 1
		case x < 0:
			return 0
		}
	}
}

// thrower throws numbers, the same ones in every run.
type thrower uint64

func (r *thrower) next() uint64 {
	x := uint64(*r)
	x ^= x << 13
	x ^= x >> 7
	x ^= x << 17
	*r = thrower(x)
	return x
}

// below throws a number from 0 to n - 1.
func (r *thrower) below(n int) int {
	return int(r.next() >> 11 % uint64(n))
}

// text throws one of n bytes.
func (r *thrower) text(n int) string {
	b := make([]byte, n)
	for k := range b {
		b[k] = byte(r.next() >> 24)
	}
	return string(b)
}

// edges are the lengths at which a word, or all of them, are full or begun, and those beside.
func edges() []int {
	return []int{0, 1, 2, 6, 7, 8, 9, 10, 15, 16, 17, 63, 64, 65, 503, 504, 505, 991, 992, 993, 998, 999, 1000}
}

// textsOf are texts of n bytes: of 0 alone, of 255 alone, of a mark at either end, of rising bytes, whose places can be told apart, and thrown ones.
func textsOf(n int) []string {
	rising := make([]byte, n)
	for k := range rising {
		rising[k] = byte(k%251 + 1)
	}
	r := thrower(n + 1)
	row := []string{strings.Repeat("\x00", n), strings.Repeat("\xff", n), string(rising), r.text(n), r.text(n)}
	if n > 0 {
		zeros, full := strings.Repeat("\x00", n-1), strings.Repeat("\xff", n-1)
		row = append(row, "\xff"+zeros, zeros+"\xff", "\x00"+full, full+"\x00", "\x80"+zeros, zeros+"\x01")
	}
	return row
}
