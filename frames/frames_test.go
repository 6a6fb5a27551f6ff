package frames

import (
	"math"
	"strings"
	"testing"

	"rehearsal/api"
)

// wrong are numbers that are neither a frame of a memory nor an offset in one of its pages.
var wrong = []int{-1, 4096, 4097, 1 << 32, math.MinInt, math.MaxInt}

// zeros is the content of a newly allocated frame.
var zeros = strings.Repeat("\x00", api.PageSize)

// padded returns a page that begins with s.
func padded(s string) string { return s + zeros[len(s):] }

// marked returns a page whose bytes all differ, and differ from those of the marked pages of other frames.
func marked(f int) string {
	b := make([]byte, api.PageSize)
	for at := range b {
		b[at] = byte(f*api.PageSize + at)
	}
	return string(b)
}

// alloc checks a call of Alloc.
func alloc(t *testing.T, m *Frames, f int, ok bool) {
	t.Helper()
	if got, gotOk := m.Alloc(); got != f || gotOk != ok {
		t.Fatalf("Alloc = %d, %v, not %d, %v", got, gotOk, f, ok)
	}
}

// is checks an error that a call has returned.
func is(t *testing.T, got, e api.Errno) {
	t.Helper()
	if got != e {
		t.Fatalf("error %d, not %d", got, e)
	}
}

// hasPage checks everything that can be seen of a frame: a page, or the empty string if it is not allocated.
func hasPage(t *testing.T, m *Frames, f int, page string) {
	t.Helper()
	if m.Has(f) != (page != "") {
		t.Fatalf("Has(%d) = %v", f, m.Has(f))
	}
	if got := m.Page(f); got != page {
		t.Fatalf("Page(%d) = %q, not %q", f, got, page)
	}
	for at := -2; at < api.PageSize+2; at++ {
		var b byte
		if page != "" && at >= 0 && at < api.PageSize {
			b = page[at]
		}
		if got := m.Byte(f, at); got != b {
			t.Fatalf("Byte(%d, %d) = %d, not %d", f, at, got, b)
		}
	}
	for _, at := range wrong {
		if got := m.Byte(f, at); got != 0 {
			t.Fatalf("Byte(%d, %d) = %d", f, at, got)
		}
	}
}

// has checks everything that can be seen of a memory whose frames have these pages.
func has(t *testing.T, m *Frames, pages ...string) {
	t.Helper()
	if m.Size() != len(pages) {
		t.Fatalf("Size = %d, not %d", m.Size(), len(pages))
	}
	used := 0
	for f, p := range pages {
		hasPage(t, m, f, p)
		if p != "" {
			used++
		}
	}
	if m.Used() != used {
		t.Fatalf("Used = %d, not %d", m.Used(), used)
	}
	hasPage(t, m, len(pages), "")
	for _, f := range wrong {
		hasPage(t, m, f, "")
	}
}

// three returns a memory with three frames, which are allocated and marked.
func three(t *testing.T) *Frames {
	t.Helper()
	m := New(3)
	for f := range 3 {
		alloc(t, m, f, true)
		is(t, m.Fill(f, marked(f)), api.OK)
	}
	return m
}

// The examples of the chapter.
func TestExamples(t *testing.T) {
	m := New(2)
	alloc(t, m, 0, true)
	alloc(t, m, 1, true)
	alloc(t, m, 0, false)
	is(t, m.Set(0, 63, 7), api.OK)
	is(t, m.Free(0), api.OK)
	alloc(t, m, 0, true)
	if b := m.Byte(0, 63); b != 0 {
		t.Fatalf("Byte of a new frame = %d", b)
	}
	is(t, m.Fill(1, "ab"), api.OK)
	if n, b := len(m.Page(1)), m.Byte(1, 2); n != 64 || b != 0 {
		t.Fatalf("a page of %d bytes, and %d after what was filled in", n, b)
	}
}

// P7.1: the number of frames, for numbers outside of the bounds too; all of the frames are free.
func TestNew(t *testing.T) {
	sizes := map[int]int{0: 0, 1: 1, 2: 2, 256: 256, 4095: 4095, 4096: 4096, 4097: 4096, math.MaxInt: 4096, -1: 0, -4096: 0, math.MinInt: 0}
	for n, size := range sizes {
		m := New(n)
		if m.Size() != size || m.Used() != 0 {
			t.Fatalf("New(%d): Size = %d, not %d; Used = %d", n, m.Size(), size, m.Used())
		}
		for f := range size {
			if m.Has(f) {
				t.Fatalf("New(%d): Has(%d)", n, f)
			}
		}
		for f := range size {
			alloc(t, m, f, true)
			if m.Size() != size || m.Used() != f+1 || !m.Has(f) || m.Has(f+1) {
				t.Fatalf("New(%d): Size = %d, Used = %d after Alloc of the frame %d", n, m.Size(), m.Used(), f)
			}
		}
		alloc(t, m, 0, false)
	}
	has(t, New(2), "", "")
}

// P7.2: a memory without frames.
func TestNoFrames(t *testing.T) {
	m := New(0)
	alloc(t, m, 0, false)
	is(t, m.Free(0), api.ErrNone)
	is(t, m.Set(0, 0, 1), api.ErrNone)
	is(t, m.Fill(0, "a"), api.ErrNone)
	has(t, m)
	has(t, m.Copy())
}

// P7.2: Alloc takes the free frame with the least number, whatever the order in which frames became free.
func TestAllocLeast(t *testing.T) {
	m := New(5)
	for f := range 5 {
		alloc(t, m, f, true)
	}
	for _, f := range []int{1, 3, 0, 4} {
		is(t, m.Free(f), api.OK)
	}
	has(t, m, "", "", zeros, "", "")
	for _, f := range []int{0, 1, 3} {
		alloc(t, m, f, true)
	}
	is(t, m.Free(1), api.OK)
	alloc(t, m, 1, true)
	alloc(t, m, 4, true)
	alloc(t, m, 0, false)
	has(t, m, zeros, zeros, zeros, zeros, zeros)
}

// P7.2, P7.6: a failed Alloc changes nothing.
func TestAllocFull(t *testing.T) {
	m := three(t)
	for range 2 {
		alloc(t, m, 0, false)
		has(t, m, marked(0), marked(1), marked(2))
	}
}

// P7.2, P7.6: a frame that is freed has no content, and when it is allocated again, it has zero bytes only.
func TestFree(t *testing.T) {
	for f := range 3 {
		m, pages := three(t), []string{marked(0), marked(1), marked(2)}
		is(t, m.Free(f), api.OK)
		pages[f] = ""
		has(t, m, pages...)
		is(t, m.Free(f), api.ErrNone)
		is(t, m.Set(f, 0, 9), api.ErrNone)
		is(t, m.Fill(f, "x"), api.ErrNone)
		has(t, m, pages...)
		alloc(t, m, f, true)
		pages[f] = zeros
		has(t, m, pages...)
	}
}

// P7.2 to P7.4: numbers that are not those of allocated frames.
func TestNoFrame(t *testing.T) {
	m := three(t)
	is(t, m.Free(1), api.OK)
	for _, f := range append([]int{1, 3, 4, 64, 4095, -3}, wrong...) {
		is(t, m.Free(f), api.ErrNone)
		is(t, m.Fill(f, "x"), api.ErrNone)
		is(t, m.Fill(f, ""), api.ErrNone)
		for _, at := range append([]int{0, 63, 64}, wrong...) {
			is(t, m.Set(f, at, 1), api.ErrNone)
		}
		hasPage(t, m, f, "")
	}
	has(t, m, marked(0), "", marked(2))
}

// P7.3: Set replaces one byte, and Byte returns it.
func TestSet(t *testing.T) {
	for _, at := range []int{0, 1, 31, 62, 63} {
		for _, b := range []byte{0, 1, 127, 128, 255} {
			m := three(t)
			is(t, m.Set(1, at, b), api.OK)
			page := []byte(marked(1))
			page[at] = b
			has(t, m, marked(0), string(page), marked(2))
		}
	}
}

// P7.3: offsets outside of a page, also of those that would be in the page of another frame.
func TestSetRange(t *testing.T) {
	m := three(t)
	for f := range 3 {
		for _, at := range append([]int{64, 65, 128, -64}, wrong...) {
			is(t, m.Set(f, at, 1), api.ErrRange)
		}
	}
	has(t, m, marked(0), marked(1), marked(2))
}

// P7.4: Fill replaces all bytes by strings that are shorter than a page, as long, and longer.
func TestFill(t *testing.T) {
	long := strings.Repeat("0123456789", 30)
	for n := range 200 {
		m := three(t)
		is(t, m.Fill(1, long[:n]), api.OK)
		has(t, m, marked(0), padded(long[:min(n, 64)]), marked(2))
	}
	m := three(t)
	is(t, m.Fill(1, "\x00\xff\x00"), api.OK)
	has(t, m, marked(0), padded("\x00\xff\x00"), marked(2))
}

// P7.4: what Page has returned stays as it was, whatever is written later.
func TestPageIsNew(t *testing.T) {
	m := three(t)
	p := m.Page(1)
	is(t, m.Set(1, 0, 200), api.OK)
	q := m.Page(1)
	is(t, m.Fill(1, ""), api.OK)
	is(t, m.Free(1), api.OK)
	if p != marked(1) || q != "\xc8"+marked(1)[1:] {
		t.Fatalf("pages became %q and %q", p, q)
	}
}

// P7.5: a copy is in the same state, and neither of the two sees what happens to the other.
func TestCopy(t *testing.T) {
	changes := []func(m *Frames){
		func(m *Frames) { m.Alloc() },
		func(m *Frames) { m.Free(0) },
		func(m *Frames) { m.Free(0); m.Alloc() },
		func(m *Frames) { m.Set(2, 63, 200) },
		func(m *Frames) { m.Fill(0, "x") },
	}
	for i, change := range changes {
		m := three(t)
		is(t, m.Free(1), api.OK)
		c, d := m.Copy(), m.Copy()
		has(t, c, marked(0), "", marked(2))
		change(m)
		has(t, c, marked(0), "", marked(2))
		if m.Used() == 2 && m.Page(0) == marked(0) && m.Page(2) == marked(2) {
			t.Fatalf("the change %d changes nothing", i)
		}
		e := m.Copy()
		change(c)
		has(t, d, marked(0), "", marked(2))
		for f := range 3 {
			hasPage(t, e, f, m.Page(f))
			hasPage(t, c, f, m.Page(f))
		}
		if c.Size() != 3 || c.Used() != m.Used() || e.Used() != m.Used() {
			t.Fatalf("Size = %d, Used = %d, %d and %d", c.Size(), m.Used(), c.Used(), e.Used())
		}
	}
}

// P7.5: a copy allocates the frames that its original would.
func TestCopyAllocates(t *testing.T) {
	m := three(t)
	is(t, m.Free(0), api.OK)
	is(t, m.Free(2), api.OK)
	c := m.Copy()
	for _, x := range []*Frames{m, c} {
		alloc(t, x, 0, true)
		alloc(t, x, 2, true)
		alloc(t, x, 0, false)
		has(t, x, zeros, marked(1), zeros)
	}
}
