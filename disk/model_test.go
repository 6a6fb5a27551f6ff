package disk

import (
	"math/rand"
	"slices"
	"strings"
	"testing"

	"rehearsal/api"
)

// model is a disk that follows the words of the chapter, with strings that are made anew by each call.
type model struct {
	files, durable [16]string
	pending        []sector
	down           bool
	lost, armed    int
	keep           []int
}

func (m *model) put(s string, at int, bytes string) string {
	if bytes == "" {
		return s
	}
	if len(s) < at {
		s += strings.Repeat("\x00", at-len(s))
	}
	return s[:at] + bytes + s[min(len(s), at+len(bytes)):]
}

func (m *model) sectorBytes(s sector) string {
	b := m.files[s.file]
	return b[min(len(b), 64*s.n):min(len(b), 64*s.n+64)]
}

func (m *model) forget(f int) {
	m.pending = slices.DeleteFunc(slices.Clone(m.pending), func(s sector) bool { return s.file == f })
}

func (m *model) crash(keep []int) {
	if m.down {
		return
	}
	for i, s := range m.pending {
		if len(keep) > 0 && keep[i%len(keep)]&1 == 1 {
			m.durable[s.file] = m.put(m.durable[s.file], 64*s.n, m.sectorBytes(s))
		}
	}
	m.files, m.pending, m.down, m.armed = m.durable, nil, true, 0
}

// due reports whether the scheduled crash comes with this call.
func (m *model) due() bool {
	m.armed = max(m.armed, 0)
	if m.armed > 0 {
		m.armed--
		return m.armed == 0
	}
	return false
}

func (m *model) write(f, at int, s string) api.Errno {
	if m.down {
		return api.ErrDown
	}
	e := api.OK
	if f < 0 || f > 15 || at < 0 {
		e = api.ErrArg
	} else if at+len(s) > 1<<24 {
		e = api.ErrFull
	} else {
		m.files[f] = m.put(m.files[f], at, s)
		for i := range len(s) {
			if x := (sector{f, (at + i) / 64}); !slices.Contains(m.pending, x) {
				m.pending = append(m.pending, x)
			}
		}
	}
	if m.due() {
		m.crash(m.keep)
		return api.ErrDown
	}
	return e
}

func (m *model) sync(f int) api.Errno {
	switch {
	case m.down:
		return api.ErrDown
	case m.due():
		m.crash(m.keep)
		return api.ErrDown
	case f < 0 || f > 15:
		return api.ErrArg
	case m.lost > 0:
		m.lost--
		return api.ErrLost
	}
	m.durable[f] = m.files[f]
	m.forget(f)
	return api.OK
}

func (m *model) truncate(f, size int) api.Errno {
	switch {
	case m.down:
		return api.ErrDown
	case m.due():
		m.crash(m.keep)
		return api.ErrDown
	case f < 0 || f > 15 || size < 0 || size > len(m.files[f]):
		return api.ErrArg
	}
	m.files[f] = m.files[f][:size]
	m.durable[f] = m.files[f]
	m.forget(f)
	return api.OK
}

func (m *model) copy() *model {
	c := *m
	c.pending = slices.Clone(m.pending)
	c.keep = slices.Clone(m.keep)
	return &c
}

// someKeep returns a short list, which keeps some sectors.
func someKeep(r *rand.Rand) []int {
	keep := make([]int, r.Intn(6))
	for i := range keep {
		keep[i] = r.Intn(9) - 4
	}
	return keep
}

// someBytes returns a string of some sectors at the most.
func someBytes(r *rand.Rand) string {
	b := make([]byte, []int{0, 1, 3, 64, 65, 200}[r.Intn(6)])
	for i := range b {
		b[i] = byte('a' + r.Intn(26))
	}
	return string(b)
}

// act does the same with a disk and a model, and compares what they return.
func act(t *testing.T, r *rand.Rand, d *Disk, m *model) {
	t.Helper()
	f := r.Intn(5) - 1 // the files -1 to 3
	got, want := api.OK, api.OK
	switch r.Intn(14) {
	case 0, 1, 2, 3, 4:
		at, s := r.Intn(300)-2, someBytes(r)
		got, want = d.Write(f, at, s), m.write(f, at, s)
	case 5, 6:
		got, want = d.Sync(f), m.sync(f)
	case 7:
		size := r.Intn(200) - 2
		got, want = d.Truncate(f, size), m.truncate(f, size)
	case 8:
		n := r.Intn(4) - 1
		d.Lose(n)
		m.lost = max(n, 0)
	case 9:
		n, keep := r.Intn(12)-3, someKeep(r)
		d.Arm(n, keep)
		m.armed, m.keep = n, slices.Clone(keep)
	case 10:
		keep := someKeep(r)
		d.Crash(keep)
		m.crash(keep)
	default:
		d.Start()
		m.down = false
	}
	if got != want {
		t.Fatalf("%d, want %d", got, want)
	}
}

// same compares a disk and a model.
func same(t *testing.T, d *Disk, m *model) {
	t.Helper()
	if d.Down() != m.down {
		t.Fatalf("Down() = %t", d.Down())
	}
	c := d.Copy()
	c.Start()
	for f := range 16 {
		if got := all(c, f); got != m.files[f] || d.Size(f) != len(got) {
			t.Fatalf("file %d: %q, want %q", f, got, m.files[f])
		}
	}
	for _, keep := range [][]int{nil, {1}, {0, 1}, {0, 0, 1}, {1, 0, 0}} {
		c, n := d.Copy(), m.copy()
		c.Crash(keep)
		c.Start()
		n.crash(keep)
		for f := range 16 {
			if got := all(c, f); got != n.files[f] {
				t.Fatalf("file %d after Crash(%v): %q, want %q", f, keep, got, n.files[f])
			}
		}
	}
}

// P3.1 to P3.4: a disk does what the words of the chapter say, and so does a copy that is taken at any moment.
func TestAgainstModel(t *testing.T) {
	for seed := range int64(400) {
		r := rand.New(rand.NewSource(seed))
		disks, models := []*Disk{New()}, []*model{{}}
		for i := range 100 {
			which := r.Intn(len(disks))
			act(t, r, disks[which], models[which])
			same(t, disks[which], models[which])
			if i%25 == 10 {
				disks = append(disks, disks[which].Copy())
				models = append(models, models[which].copy())
			}
		}
		for i := range disks {
			same(t, disks[i], models[i])
		}
	}
}

// checkCrash checks what P3.5 and P3.6 say of a file before and after a crash.
func checkCrash(t *testing.T, file, hard, after string) {
	t.Helper()
	if len(after) < len(hard) || len(after) > len(file) {
		t.Fatalf("%d bytes after the crash, of %d durable ones and %d", len(after), len(hard), len(file))
	}
	for from := 0; from < len(after); from += 64 {
		part := func(s string) string { return s[min(from, len(s)):min(from+64, len(s))] }
		old := part(hard)
		old += strings.Repeat("\x00", len(part(after))-len(old))
		if now := part(after); now != old && now != part(file) {
			t.Fatalf("the sector at %d is torn: %q of %q and %q", from, now, part(file), part(hard))
		}
	}
}

// P3.5: after a crash each sector is as it was in the file, or as it was in the durable part.
func TestSectorsSurviveWholly(t *testing.T) {
	for seed := range int64(300) {
		r := rand.New(rand.NewSource(seed))
		d, m := New(), &model{}
		for range 30 {
			act(t, r, d, m)
			d.Start()
			m.down = false
			c := d.Copy()
			c.Crash(someKeep(r))
			c.Start()
			for f := range 4 {
				checkCrash(t, all(d, f), durable(d, f), all(c, f))
			}
		}
	}
}

// P3.5: a sector survives or not, whichever others do.
func TestSectorsSurviveIndependently(t *testing.T) {
	d := New()
	hard := strings.Repeat("-", 6*64)
	write(t, d, 0, 0, hard)
	write(t, d, 1, 0, hard)
	sync(t, d, 0)
	sync(t, d, 1)
	places := []sector{{0, 5}, {1, 2}, {0, 0}, {1, 3}, {0, 3}, {0, 2}}
	for i, s := range places {
		write(t, d, s.file, 64*s.n, strings.Repeat(string(rune('a'+i)), 64))
	}
	for bits := range 1 << len(places) {
		var keep []int
		want := [2]string{hard, hard}
		for i, s := range places {
			keep = append(keep, bits>>i&1)
			if bits>>i&1 == 1 {
				w := want[s.file]
				want[s.file] = w[:64*s.n] + strings.Repeat(string(rune('a'+i)), 64) + w[64*s.n+64:]
			}
		}
		if got := [2]string{crashed(d, 0, keep...), crashed(d, 1, keep...)}; got != want {
			t.Fatalf("Crash(%v): %q", keep, got)
		}
	}
}

// P3.5: Truncate is atomic: a crash at it leaves the file as a crash before it does, one after it leaves the cut file.
func TestTruncateIsAtomic(t *testing.T) {
	for _, keep := range [][]int{nil, {1}, {0, 1}, {1, 0}} {
		d := New()
		write(t, d, 0, 0, strings.Repeat("a", 200))
		sync(t, d, 0)
		write(t, d, 0, 100, strings.Repeat("b", 200))
		before := crashed(d, 0, keep...)
		at := d.Copy()
		at.Arm(1, keep)
		if e := at.Truncate(0, 150); e != api.ErrDown {
			t.Errorf("Truncate = %d", e)
		}
		if at.Start(); all(at, 0) != before {
			t.Errorf("%v: the crash at Truncate leaves %q", keep, all(at, 0))
		}
		cut := all(d, 0)[:150]
		if e := d.Truncate(0, 150); e != api.OK || crashed(d, 0, keep...) != cut {
			t.Errorf("%v: Truncate = %d, and a crash leaves %q", keep, e, crashed(d, 0, keep...))
		}
	}
}

// P3.6: crashes do not touch what was synced and not written since.
func TestSyncedBytesStay(t *testing.T) {
	for seed := range int64(300) {
		r := rand.New(rand.NewSource(seed))
		d := New()
		write(t, d, 0, 0, strings.Repeat("s", 500))
		sync(t, d, 0)
		clean := [8]bool{true, true, true, true, true, true, true, true}
		for range 5 {
			at, s := r.Intn(500), someBytes(r)
			for i := at; i < at+len(s) && i < 500; i++ {
				clean[i/64] = false
			}
			write(t, d, 0, at, s)
			write(t, d, 1, at, s)
			after := crashed(d, 0, someKeep(r)...)
			for i := range 500 {
				if clean[i/64] && after[i] != 's' {
					t.Fatalf("seed %d: the byte %d has changed", seed, i)
				}
			}
		}
	}
}
