package slab

import (
	"slices"
	"testing"

	"loft/api"
)

// model is an arena that is as plain as the chapter's words: the granted pages' words by their addresses.
type model struct {
	quota int
	words map[int]uint64
}

func (m *model) is(page int) bool {
	_, there := m.words[page*api.PageWords]
	return there
}

func (m *model) free(page, n int) bool {
	for k := range n {
		if m.is(page + k) {
			return false
		}
	}
	return true
}

func (m *model) add(page, n int) {
	for a := page * api.PageWords; a < (page+n)*api.PageWords; a++ {
		m.words[a] = 0
	}
}

func (m *model) grant(n int) (int, api.Errno) {
	if n < 1 || n > api.MaxPages {
		return 0, api.ErrArg
	}
	if len(m.words)+n*api.PageWords > m.quota {
		return 0, api.ErrQuota
	}
	page := 0
	for !m.free(page, n) {
		page++
	}
	m.add(page, n)
	return page, api.OK
}

func (m *model) release(page, n int) api.Errno {
	if n < 1 || n > api.MaxPages || page < 0 || page+n-1 > api.LastPage {
		return api.ErrArg
	}
	for k := range n {
		if !m.is(page + k) {
			return api.ErrNone
		}
	}
	for a := page * api.PageWords; a < (page+n)*api.PageWords; a++ {
		delete(m.words, a)
	}
	return api.OK
}

func (m *model) claim(page int) api.Errno {
	switch {
	case page < 0 || page > api.LastPage:
		return api.ErrArg
	case m.is(page):
		return api.ErrThere
	case len(m.words)+api.PageWords > m.quota:
		return api.ErrQuota
	}
	m.add(page, 1)
	return api.OK
}

func (m *model) read(addr int) (uint64, api.Errno) {
	if addr < 0 || addr > lastAddr {
		return 0, api.ErrArg
	}
	w, there := m.words[addr]
	if !there {
		return 0, api.ErrNone
	}
	return w, api.OK
}

func (m *model) write(addr int, w uint64) api.Errno {
	_, e := m.read(addr)
	if e == api.OK {
		m.words[addr] = w
	}
	return e
}

func (m *model) move(to, from, n int) api.Errno {
	for _, a := range []int{to, from} {
		if a < 0 || n < 0 || n > api.MaxQuota || a > lastAddr || a+n-1 > lastAddr {
			return api.ErrArg
		}
	}
	var row []uint64
	for k := range n {
		w, e := m.read(from + k)
		_, e2 := m.read(to + k)
		if e != api.OK || e2 != api.OK {
			return api.ErrNone
		}
		row = append(row, w)
	}
	for k, w := range row {
		m.words[to+k] = w
	}
	return api.OK
}

func (m *model) pages() []int {
	var out []int
	for a := range m.words {
		if a%api.PageWords == 0 {
			out = append(out, a/api.PageWords)
		}
	}
	slices.Sort(out)
	return out
}

// dice is a fixed row of numbers that look thrown.
type dice uint64

// below is a number from 0 to n less 1.
func (d *dice) below(n int) int {
	*d = *d*6364136223846793005 + 1442695040888963407
	return int(uint64(*d) >> 33 % uint64(n))
}

// page is mostly near one of both ends, at times beyond it.
func (d *dice) page() int {
	if d.below(4) == 0 {
		return api.LastPage - 6 + d.below(9)
	}
	return d.below(14) - 1
}

func (d *dice) addr() int { return d.page()*api.PageWords + d.below(api.PageWords) }

// answer is what a call told, and which one it was.
type answer struct {
	do   int
	n    int
	word uint64
	e    api.Errno
}

// play does one call on an arena and the same one on the model: what either told.
func play(d *dice, s *Slab, m *model) (answer, answer) {
	do := d.below(10)
	got, want := answer{do: do}, answer{do: do}
	switch do {
	case 0:
		n := d.below(5)
		got.n, got.e = s.Grant(n)
		want.n, want.e = m.grant(n)
	case 1, 2:
		page, n := d.page(), d.below(4)
		got.e, want.e = s.Release(page, n), m.release(page, n)
	case 3, 4:
		page := d.page()
		got.e, want.e = s.Claim(page), m.claim(page)
	case 5:
		addr := d.addr()
		got.word, got.e = s.Read(addr)
		want.word, want.e = m.read(addr)
	case 6, 7:
		addr, w := d.addr(), uint64(*d)
		got.e, want.e = s.Write(addr, w), m.write(addr, w)
	default:
		to, from, n := d.addr(), d.addr(), d.below(200)-1
		got.e, want.e = s.Move(to, from, n), m.move(to, from, n)
	}
	return got, want
}

// expectModel holds all that an arena tells against the model.
func expectModel(t *testing.T, s *Slab, m *model) {
	t.Helper()
	if len(m.words) > m.quota || s.Quota() != m.quota {
		t.Fatalf("quota %d, of the model %d with %d words", s.Quota(), m.quota, len(m.words))
	}
	expectState(t, s, state{m.quota, m.pages(), m.words})
	for p := -2; p < 16; p++ {
		if s.Is(p) != m.is(p) || s.Is(api.LastPage-p) != m.is(api.LastPage-p) {
			t.Fatalf("Is(%d) or Is(%d) is wrong", p, api.LastPage-p)
		}
	}
}

func TestAgainstModel(t *testing.T) {
	for seed, quota := range []int{0, 63, 64, 200, 448, 640, 1000, 2000} {
		s := arena(t, quota)
		m := &model{quota, map[int]uint64{}}
		d := dice(seed)
		for step := range 3000 {
			got, want := play(&d, s, m)
			if got != want {
				t.Fatalf("quota %d, step %d: %v, want %v", quota, step, got, want)
			}
			expectModel(t, s, m)
		}
	}
}

// P1 of the whole: the same calls have the same answers.
func TestSameCallsSameAnswers(t *testing.T) {
	row := func() []answer {
		s := arena(t, 1000)
		m := &model{1000, map[int]uint64{}}
		d := dice(77)
		var out []answer
		for range 5000 {
			got, _ := play(&d, s, m)
			out = append(out, got)
			for k, p := range s.Pages() {
				out = append(out, answer{do: -1, n: p, word: uint64(k)})
			}
		}
		return out
	}
	if !slices.Equal(row(), row()) {
		t.Error("the same calls have other answers")
	}
}
