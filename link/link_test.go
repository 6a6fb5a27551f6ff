package link

import (
	"math"
	"slices"
	"strconv"
	"testing"

	"rehearsal/api"
)

// wrong are numbers that are neither an end nor the index of one of at most two packets.
var wrong = []int{-1, 2, 3, 500, math.MinInt, math.MaxInt}

// send sends packets whose bodies are these, which has to succeed.
func send(t *testing.T, l *Link, from int, bodies ...string) {
	t.Helper()
	for _, b := range bodies {
		if e := l.Send(from, b); e != api.OK {
			t.Fatalf("Send(%d, %q) = %d", from, b, e)
		}
	}
}

// has checks everything that can be seen of a link.
func has(t *testing.T, l *Link, cut bool, packets ...api.Packet) {
	t.Helper()
	if l.IsCut() != cut {
		t.Fatalf("IsCut = %v", !cut)
	}
	if l.Count() != len(packets) {
		t.Fatalf("Count = %d, not %d", l.Count(), len(packets))
	}
	if got := l.List(); !slices.Equal(got, packets) {
		t.Fatalf("List = %v, not %v", got, packets)
	}
}

// delivers checks a call of Deliver.
func delivers(t *testing.T, l *Link, i int, p api.Packet, e api.Errno) {
	t.Helper()
	if got, ge := l.Deliver(i); got != p || ge != e {
		t.Fatalf("Deliver(%d) = %v, %d, not %v, %d", i, got, ge, p, e)
	}
}

// full returns a link with Most packets, and these packets; their bodies are their indices.
func full(t *testing.T) (*Link, []api.Packet) {
	t.Helper()
	l := New()
	var all []api.Packet
	for i := range Most {
		send(t, l, i%2, strconv.Itoa(i))
		all = append(all, api.Packet{To: 1 - i%2, Body: strconv.Itoa(i)})
	}
	return l, all
}

// The examples of the chapter.
func TestExamples(t *testing.T) {
	l := New()
	send(t, l, 0, "a")
	send(t, l, 1, "b")
	delivers(t, l, 1, api.Packet{To: 0, Body: "b"}, api.OK)
	delivers(t, l, 0, api.Packet{To: 1, Body: "a"}, api.OK)
	delivers(t, l, 0, api.Packet{}, api.ErrNone)
	l = New()
	send(t, l, 0, "a")
	l.Cut()
	if e := l.Send(0, "c"); e != api.ErrLink {
		t.Fatalf("Send on a cut link = %d", e)
	}
	l.Join()
	has(t, l, false)
}

// P6.1: New, and what Send adds.
func TestSend(t *testing.T) {
	l := New()
	has(t, l, false)
	send(t, l, 1, "x\x00\xff", "")
	send(t, l, 0, "x\x00\xff")
	has(t, l, false, api.Packet{To: 0, Body: "x\x00\xff"}, api.Packet{To: 0}, api.Packet{To: 1, Body: "x\x00\xff"})
	if Most != 500 {
		t.Fatalf("Most = %d", Most)
	}
}

// sendsNothing checks that each end gets this error, and everything else that it is no end.
func sendsNothing(t *testing.T, l *Link, e api.Errno) {
	t.Helper()
	for _, from := range append([]int{0, 1}, wrong...) {
		want := api.ErrArg
		if from == 0 || from == 1 {
			want = e
		}
		if got := l.Send(from, "x"); got != want {
			t.Fatalf("Send(%d) = %d, not %d", from, got, want)
		}
	}
}

// P6.1: the errors of Send and their order; a packet that is not added is lost.
func TestSendErrors(t *testing.T) {
	l, all := full(t)
	sendsNothing(t, l, api.ErrFull)
	has(t, l, false, all...)
	delivers(t, l, 0, all[0], api.OK)
	has(t, l, false, all[1:]...)
	send(t, l, 0, "last")
	has(t, l, false, append(slices.Clone(all[1:]), api.Packet{To: 1, Body: "last"})...)
	l.Cut()
	sendsNothing(t, l, api.ErrLink)
	has(t, l, true)
	l.Join()
	has(t, l, false)
}

// P6.2: what Deliver, Drop and Double do to the packets around the one that they concern.
func TestPackets(t *testing.T) {
	a, b, c := api.Packet{To: 1, Body: "a"}, api.Packet{To: 0, Body: "b"}, api.Packet{To: 1, Body: "c"}
	three := func() *Link {
		l := New()
		send(t, l, 0, "a")
		send(t, l, 1, "b")
		send(t, l, 0, "c")
		return l
	}
	rest := [][]api.Packet{{b, c}, {a, c}, {a, b}}
	for i, p := range []api.Packet{a, b, c} {
		l := three()
		delivers(t, l, i, p, api.OK)
		has(t, l, false, rest[i]...)
		l = three()
		if e := l.Drop(i); e != api.OK {
			t.Fatalf("Drop(%d) = %d", i, e)
		}
		has(t, l, false, rest[i]...)
		l = three()
		if e := l.Double(i); e != api.OK {
			t.Fatalf("Double(%d) = %d", i, e)
		}
		has(t, l, false, a, b, c, p)
		delivers(t, l, i, p, api.OK)
		delivers(t, l, 2, p, api.OK)
		has(t, l, false, rest[i]...)
	}
}

// P6.2: indices without a packet, on links with two packets, without packets, and that are cut.
func TestNoPacket(t *testing.T) {
	two, cut := New(), New()
	send(t, two, 0, "a", "b")
	send(t, cut, 0, "a")
	cut.Cut()
	for n, l := range []*Link{two, New(), cut} {
		before := l.List()
		for _, i := range append([]int{len(before)}, wrong...) {
			delivers(t, l, i, api.Packet{}, api.ErrNone)
			if e := l.Drop(i); e != api.ErrNone {
				t.Fatalf("Drop(%d) = %d", i, e)
			}
			if e := l.Double(i); e != api.ErrNone {
				t.Fatalf("Double(%d) = %d", i, e)
			}
			has(t, l, n == 2, before...)
		}
	}
}

// P6.2: Double of a full link: ErrNone comes before ErrFull.
func TestDoubleFull(t *testing.T) {
	l, all := full(t)
	for i, e := range map[int]api.Errno{0: api.ErrFull, Most - 1: api.ErrFull, Most: api.ErrNone, -1: api.ErrNone} {
		if got := l.Double(i); got != e {
			t.Fatalf("Double(%d) of a full link = %d, not %d", i, got, e)
		}
		has(t, l, false, all...)
	}
	if e := l.Drop(7); e != api.OK {
		t.Fatalf("Drop = %d", e)
	}
	all = slices.Delete(all, 7, 8)
	if e := l.Double(0); e != api.OK {
		t.Fatalf("Double with one place left = %d", e)
	}
	has(t, l, false, append(all, all[0])...)
	if e := l.Double(0); e != api.ErrFull {
		t.Fatalf("Double of a link that is full again = %d", e)
	}
}

// P6.3: Cut and Join, once and more often.
func TestCut(t *testing.T) {
	l := New()
	l.Join()
	has(t, l, false)
	for range 2 {
		send(t, l, 0, "a", "b")
		l.Cut()
		has(t, l, true)
		l.Cut()
		has(t, l, true)
		delivers(t, l, 0, api.Packet{}, api.ErrNone) // P6.6
		l.Join()
		has(t, l, false)
	}
	send(t, l, 1, "c")
	l.Join()
	has(t, l, false, api.Packet{To: 0, Body: "c"})
}

// P6.4: copies are equal and independent, in both directions.
func TestCopy(t *testing.T) {
	a, b := api.Packet{To: 1, Body: "a"}, api.Packet{To: 1, Body: "b"}
	l := New()
	send(t, l, 0, "a", "b")
	c := l.Copy()
	has(t, c, false, a, b)
	send(t, l, 1, "l")
	send(t, c, 1, "c")
	has(t, l, false, a, b, api.Packet{Body: "l"})
	has(t, c, false, a, b, api.Packet{Body: "c"})
	delivers(t, c, 0, a, api.OK)
	has(t, l, false, a, b, api.Packet{Body: "l"})
	if e := l.Drop(1); e != api.OK {
		t.Fatalf("Drop = %d", e)
	}
	has(t, c, false, b, api.Packet{Body: "c"})
	l.Cut()
	has(t, c, false, b, api.Packet{Body: "c"})
	d := l.Copy()
	has(t, d, true)
	l.Join()
	has(t, d, true)
	d.Join()
	send(t, d, 0, "a")
	has(t, l, false)
}

// P6.4: a packet that is removed from a link or from its copy is still in the other one, in its place.
func TestCopyRemoved(t *testing.T) {
	a, b := api.Packet{To: 1, Body: "a"}, api.Packet{To: 1, Body: "b"}
	for i, rest := range []api.Packet{b, a} {
		l := New()
		send(t, l, 0, "a", "b")
		c, d := l.Copy(), l.Copy()
		delivers(t, l, i, []api.Packet{a, b}[i], api.OK)
		has(t, c, false, a, b)
		delivers(t, c, i, []api.Packet{a, b}[i], api.OK)
		send(t, c, 1, "c")
		has(t, l, false, rest)
		has(t, d, false, a, b)
	}
}

// P6.4: lists are new, so that changes of them or of the link are not seen in the other.
func TestListIsNew(t *testing.T) {
	a, b := api.Packet{To: 1, Body: "a"}, api.Packet{To: 1, Body: "b"}
	l := New()
	send(t, l, 0, "a", "b")
	first, second := l.List(), l.List()
	first[0].Body = "x"
	_ = append(first[:1], api.Packet{Body: "y"})
	has(t, l, false, a, b)
	delivers(t, l, 0, a, api.OK)
	send(t, l, 0, "c")
	if !slices.Equal(second, []api.Packet{a, b}) {
		t.Fatalf("a list became %v", second)
	}
}
