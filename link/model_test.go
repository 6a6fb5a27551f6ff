package link

import (
	"math/rand"
	"slices"
	"strconv"
	"testing"

	"rehearsal/api"
)

// model is a link that follows the words of the chapter, with lists that are made anew by each call.
type model struct {
	flight []api.Packet
	cut    bool
}

func (m *model) without(i int) []api.Packet {
	var l []api.Packet
	for j, p := range m.flight {
		if j != i {
			l = append(l, p)
		}
	}
	return l
}

func (m *model) with(p api.Packet) []api.Packet {
	return append(slices.Clone(m.flight), p)
}

func (m *model) send(from int, body string) api.Errno {
	switch {
	case from != 0 && from != 1:
		return api.ErrArg
	case m.cut:
		return api.ErrLink
	case len(m.flight) == 500:
		return api.ErrFull
	}
	to := map[int]int{0: 1, 1: 0}[from]
	m.flight = m.with(api.Packet{To: to, Body: body})
	return api.OK
}

func (m *model) deliver(i int) (api.Packet, api.Errno) {
	if i < 0 || i >= len(m.flight) {
		return api.Packet{}, api.ErrNone
	}
	p := m.flight[i]
	m.flight = m.without(i)
	return p, api.OK
}

func (m *model) double(i int) api.Errno {
	switch {
	case i < 0 || i >= len(m.flight):
		return api.ErrNone
	case len(m.flight) == 500:
		return api.ErrFull
	}
	m.flight = m.with(m.flight[i])
	return api.OK
}

// pair is a link, its model, and how often each packet was sent and delivered.
type pair struct {
	l               *Link
	m               *model
	sent, delivered map[api.Packet]int
	doubled         bool
}

func newPair() *pair {
	return &pair{l: New(), m: &model{}, sent: map[api.Packet]int{}, delivered: map[api.Packet]int{}}
}

// call makes the call with this number on the link and its model, and reports whether the results are equal.
func (p *pair) call(kind, i int, body string) bool {
	switch kind {
	case 0:
		e := p.l.Send(i, body)
		if e == api.OK {
			p.sent[api.Packet{To: 1 - i, Body: body}]++
		}
		return e == p.m.send(i, body)
	case 1:
		got, e := p.l.Deliver(i)
		want, we := p.m.deliver(i)
		if e == api.OK {
			p.delivered[got]++
		}
		return got == want && e == we
	case 2:
		_, want := p.m.deliver(i)
		return p.l.Drop(i) == want
	case 3:
		e := p.l.Double(i)
		p.doubled = p.doubled || e == api.OK
		return e == p.m.double(i)
	case 4:
		p.l.Cut()
		p.m.cut, p.m.flight = true, nil
	case 5:
		p.l.Join()
		p.m.cut = false
	case 6:
		old := p.l
		p.l = old.Copy()
		for old.Drop(0) == api.OK {
			old.Send(0, "other")
			old.Drop(0)
		}
		old.Cut()
	}
	return true
}

// same reports whether the link is as its model is, and what was delivered is what was sent (P6.5, P6.6).
func (p *pair) same(before int) bool {
	if p.l.IsCut() != p.m.cut || p.l.Count() != len(p.m.flight) || !slices.Equal(p.l.List(), p.m.flight) {
		return false
	}
	total := 0
	for q, n := range p.delivered {
		if p.sent[q] == 0 || !p.doubled && n > p.sent[q] {
			return false
		}
		total += n
	}
	return !p.m.cut || total == before
}

// count returns how many packets were delivered.
func (p *pair) count() int {
	n := 0
	for _, k := range p.delivered {
		n += k
	}
	return n
}

// P6.1 to P6.6: random calls have the results that the model has.
func TestRandomCalls(t *testing.T) {
	for seed := range 60 {
		r := rand.New(rand.NewSource(int64(seed)))
		p := newPair()
		kinds := [][]int{{0, 0, 0, 1, 2, 4, 5, 6}, {0, 0, 1, 1, 2, 3, 3, 3, 4, 5, 5, 6}, {0, 0, 0, 0, 0, 0, 0, 3, 1, 6}}[seed%3]
		for n := range 1200 {
			before := p.count()
			kind, i := kinds[r.Intn(len(kinds))], r.Intn(len(p.m.flight)+3)-1
			if kind == 0 {
				i = r.Intn(4) - 1 + r.Intn(20)/19
			}
			if !p.call(kind, i, strconv.Itoa(r.Intn(9))) || !p.same(before) {
				t.Fatalf("seed %d, call %d: call %d with %d: %v, not %v", seed, n, kind, i, p.l, p.m)
			}
		}
	}
}

// FuzzCalls has each pair of bytes as a call.
func FuzzCalls(f *testing.F) {
	f.Add([]byte("\x00\x01\x00\x02\x03\x01\x01\x01"))
	f.Add([]byte("\x00\x01\x04\x00\x00\x01\x05\x00\x00\x02\x06\x00\x01\x01"))
	f.Fuzz(func(t *testing.T, calls []byte) {
		p := newPair()
		for n := 0; n+1 < len(calls); n += 2 {
			before := p.count()
			if !p.call(int(calls[n]%7), int(calls[n+1])-1, strconv.Itoa(n%5)) || !p.same(before) {
				t.Fatalf("call %d: %v, not %v", n/2, p.l, p.m)
			}
		}
	})
}
