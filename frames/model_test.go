package frames

import (
	"math/rand"
	"strings"
	"testing"

	"rehearsal/api"
)

// model is a memory that follows the words of the chapter: its allocated frames are the keys of a map, and each of its
// pages is a string that is made anew by each change.
type model struct {
	size  int
	pages map[int]string
}

func (m *model) alloc() (int, bool) {
	for f := 0; f < m.size; f++ {
		if _, there := m.pages[f]; !there {
			m.pages[f] = strings.Repeat("\x00", 64)
			return f, true
		}
	}
	return 0, false
}

func (m *model) free(f int) api.Errno {
	if _, there := m.pages[f]; !there {
		return api.ErrNone
	}
	delete(m.pages, f)
	return api.OK
}

func (m *model) set(f, at int, b byte) api.Errno {
	p, there := m.pages[f]
	if !there {
		return api.ErrNone
	}
	if at < 0 || at > 63 {
		return api.ErrRange
	}
	m.pages[f] = p[:at] + string([]byte{b}) + p[at+1:]
	return api.OK
}

func (m *model) fill(f int, s string) api.Errno {
	if _, there := m.pages[f]; !there {
		return api.ErrNone
	}
	m.pages[f] = (s + strings.Repeat("\x00", 64))[:64]
	return api.OK
}

// byteAt returns what Byte has to return.
func (m *model) byteAt(f, at int) byte {
	p, there := m.pages[f]
	if !there || at < 0 || at > 63 {
		return 0
	}
	return p[at]
}

// pair is a memory and its model.
type pair struct {
	f *Frames
	m *model
}

func newPair(n int) *pair { return &pair{f: New(n), m: &model{size: n, pages: map[int]string{}}} }

// call makes the call with this number on the memory and its model, and reports whether the results are equal.
func (p *pair) call(kind, f, at int, b byte) bool {
	switch kind {
	case 0:
		got, ok := p.f.Alloc()
		want, wantOk := p.m.alloc()
		return got == want && ok == wantOk
	case 1:
		return p.f.Free(f) == p.m.free(f)
	case 2:
		return p.f.Set(f, at, b) == p.m.set(f, at, b)
	case 3:
		s := strings.Repeat(string([]byte{b, b + 1, 'x'}), max(at, 0)%40)
		return p.f.Fill(f, s) == p.m.fill(f, s)
	case 4:
		old := p.f
		p.f = old.Copy()
		for i := range old.Size() {
			old.Fill(i, "other")
			old.Free(i)
		}
		old.Alloc()
	}
	return true
}

// same reports whether the memory is as its model is.
func (p *pair) same(at int) bool {
	if p.f.Size() != p.m.size || p.f.Used() != len(p.m.pages) {
		return false
	}
	for f := -1; f <= p.m.size; f++ {
		page, there := p.m.pages[f]
		if p.f.Has(f) != there || p.f.Page(f) != page || p.f.Byte(f, at) != p.m.byteAt(f, at) {
			return false
		}
	}
	return true
}

// P7.2 to P7.6: random calls have the results that the model has, and what is in all frames is what the model has.
func TestRandomCalls(t *testing.T) {
	for seed := range 100 {
		r := rand.New(rand.NewSource(int64(seed)))
		size := []int{1, 2, 5, 13}[seed%4]
		p := newPair(size)
		kinds := [][]int{{0, 0, 1, 2, 2, 2, 3, 4}, {0, 0, 0, 1, 1, 2, 3, 3}, {0, 0, 0, 2, 2, 3, 3, 1, 1, 4}}[seed%3]
		for n := range 1000 {
			kind, f, at, b := kinds[r.Intn(len(kinds))], r.Intn(size+2)-1, r.Intn(68)-2, byte(r.Intn(256))
			if !p.call(kind, f, at, b) || !p.same(at) {
				t.Fatalf("seed %d, call %d: call %d with %d, %d, %d: %v, not %v", seed, n, kind, f, at, b, p.f, p.m)
			}
		}
	}
}

// FuzzCalls has each four bytes as a call.
func FuzzCalls(f *testing.F) {
	f.Add([]byte("\x00\x00\x00\x00\x02\x01\x04\x09\x01\x01\x00\x00\x00\x00\x00\x00"))
	f.Add([]byte("\x00\x00\x00\x00\x00\x00\x00\x00\x03\x02\x05\x41\x04\x00\x00\x00\x01\x01\x00\x00"))
	f.Fuzz(func(t *testing.T, calls []byte) {
		p := newPair(6)
		for n := 0; n+3 < len(calls); n += 4 {
			c := calls[n : n+4]
			at := int(c[2]) - 2
			if !p.call(int(c[0]%5), int(c[1])-1, at, c[3]) || !p.same(at) {
				t.Fatalf("call %d: %v, not %v", n/4, p.f, p.m)
			}
		}
	})
}
