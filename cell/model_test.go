package cell

import (
	"math/rand"
	"slices"
	"strings"
	"testing"

	"rehearsal/api"
	"rehearsal/disk"
)

// model is a cell that performs the steps of the chapter one by one on a disk of its own.
type model struct {
	d     *disk.Disk
	slot  int
	value string
	has   bool
	sure  bool
}

func (m *model) open() api.Errno {
	s, e := m.d.Read(0, 0, 1<<24)
	if e != api.OK {
		return e
	}
	value, has, e := meaning(s)
	if e != api.OK {
		return e
	}
	m.slot, m.value, m.has, m.sure = 0, value, has, false
	if has {
		m.slot = int(s[0])
	}
	return api.OK
}

func (m *model) set(s string) api.Errno {
	if len(s) > 65536 {
		return api.ErrFull
	}
	if !m.sure && m.slot > 0 { // 1
		if e := m.d.Sync(0); e != api.OK {
			return e
		}
		m.sure = true
	}
	other := map[int]int{0: 1, 1: 2, 2: 1}[m.slot]
	if e := m.d.Write(0, map[int]int{1: 64, 2: 131072}[other], s); e != api.OK { // 2
		return e
	}
	if e := m.d.Sync(0); e != api.OK { // 3
		return e
	}
	n := len(s)
	if e := m.d.Write(0, 0, string([]byte{byte(other), byte(n % 256), byte(n / 256 % 256), byte(n / 65536), 0})); e != api.OK { // 4
		return e
	}
	m.slot, m.value, m.has, m.sure = other, s, true, false
	if e := m.d.Sync(0); e != api.OK { // 5
		return e
	}
	m.sure = true
	return api.OK
}

// sameDisk compares two disks: their files now, and as crashes leave them.
func sameDisk(t *testing.T, a, b *disk.Disk) {
	t.Helper()
	if a.Down() != b.Down() || bytesOf(a, 0) != bytesOf(b, 0) {
		t.Fatal("the files differ")
	}
	for _, keep := range [][]int{nil, {1, 0}, {0, 1, 1}} {
		x, y := a.Copy(), b.Copy()
		x.Crash(keep)
		y.Crash(keep)
		x.Start()
		y.Start()
		if bytesOf(x, 0) != bytesOf(y, 0) {
			t.Fatalf("the files differ after a crash that keeps %v", keep)
		}
	}
}

func randomKeep(r *rand.Rand) []int {
	keep := make([]int, r.Intn(6))
	for i := range keep {
		keep[i] = r.Intn(2)
	}
	return keep
}

func randomValue(r *rand.Rand) string {
	size := r.Intn(8)
	switch r.Intn(20) {
	case 0:
		size = Max - r.Intn(2)
	case 1:
		size = Max + 1
	case 2, 3, 4:
		size = r.Intn(500)
	}
	return strings.Repeat(string(rune('a'+r.Intn(26))), size)
}

// P4.1 to P4.5: a cell does on its disk, step by step, what the chapter says, whatever is lost and whenever it crashes; and
// a value is that of the last Set that returned OK, or that of a later one.
func TestModel(t *testing.T) {
	r := rand.New(rand.NewSource(4))
	for range 60 {
		modelRun(t, r)
	}
}

func modelRun(t *testing.T, r *rand.Rand) {
	d := disk.New()
	m := &model{d: disk.New()}
	c := open(t, d, 0)
	m.open()
	allowed := []string{""} // the values that may be found after a crash
	for range 40 {
		switch r.Intn(8) {
		case 0:
			n := r.Intn(4)
			d.Lose(n)
			m.d.Lose(n)
		case 1:
			n, keep := r.Intn(7), randomKeep(r)
			d.Arm(n, keep)
			m.d.Arm(n, keep)
		case 2:
			keep := randomKeep(r)
			d.Crash(keep)
			m.d.Crash(keep)
		default:
			s := randomValue(r)
			e := c.Set(s)
			if want := m.set(s); e != want {
				t.Fatalf("Set of %d bytes = %d, want %d", len(s), e, want)
			}
			if e == api.OK {
				allowed = nil
			}
			if e != api.ErrFull {
				allowed = append(allowed, s)
			}
			has(t, c, m.value, m.has)
		}
		sameDisk(t, d, m.d)
		if d.Down() || r.Intn(10) == 0 {
			c = reopen(t, d, m)
			allowed = checkValue(t, c, allowed)
		}
	}
}

// reopen starts the machines, and opens the cells again.
func reopen(t *testing.T, d *disk.Disk, m *model) *Cell {
	t.Helper()
	d.Start()
	m.d.Start()
	c := open(t, d, 0)
	if e := m.open(); e != api.OK {
		t.Fatal(e)
	}
	has(t, c, m.value, m.has)
	return c
}

// checkValue checks the value of a cell that was opened again (no value counts as an empty one), and returns what is allowed
// from then on.
func checkValue(t *testing.T, c *Cell, allowed []string) []string {
	t.Helper()
	got, _ := c.Get()
	if !slices.Contains(allowed, got) {
		t.Fatalf("the value of %d bytes is none of %d", len(got), len(allowed))
	}
	return []string{got}
}
