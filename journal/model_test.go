package journal

import (
	"math/rand"
	"slices"
	"strconv"
	"strings"
	"testing"

	"rehearsal/api"
	"rehearsal/cell"
	"rehearsal/disk"
)

// model is a journal with the base 0 that performs the steps of the chapter one by one on a disk of its own.
type model struct {
	d      *disk.Disk
	cell   *cell.Cell
	blocks [api.MaxBlocks]string
	failed bool
}

func (m *model) open() api.Errno {
	c, e := cell.Open(m.d, 2)
	if e != api.OK {
		return e
	}
	m.cell = c
	s, _ := c.Get()
	n, err := strconv.Atoi(strings.TrimSuffix(s, ";"))
	if err == nil && strconv.Itoa(n)+";" == s && n > 0 {
		log, e := m.d.Read(1, 0, n)
		if e != api.OK {
			return e
		}
		l, right := changeOf(log)
		if !right {
			return api.ErrForm
		}
		if e := m.bring(l); e != api.OK {
			return e
		}
		if e := c.Set("0;"); e != api.OK {
			return e
		}
	}
	home, e := m.d.Read(0, 0, 1<<24)
	if e != api.OK {
		return e
	}
	m.failed = false
	for k := range m.blocks {
		m.blocks[k] = blockOf(home, k)
	}
	return api.OK
}

func (m *model) commit(l []api.Block) api.Errno {
	if m.failed {
		return api.ErrState
	}
	if !rightChange(l) {
		return api.ErrArg
	}
	m.failed = true
	s := text(l)
	if e := m.d.Truncate(1, 0); e != api.OK { // 1
		return e
	}
	if e := m.d.Write(1, 0, s); e != api.OK {
		return e
	}
	if e := m.d.Sync(1); e != api.OK {
		return e
	}
	if e := m.cell.Set(strconv.Itoa(len(s)) + ";"); e != api.OK { // 2
		return e
	}
	if e := m.bring(l); e != api.OK { // 3
		return e
	}
	if e := m.cell.Set("0;"); e != api.OK { // 4
		return e
	}
	m.failed = false
	for _, b := range l {
		m.blocks[b.N] = b.Data
	}
	return api.OK
}

func (m *model) bring(l []api.Block) api.Errno {
	for _, b := range l {
		if e := m.d.Write(0, 128*b.N, string([]byte{byte(len(b.Data))})); e != api.OK {
			return e
		}
		if len(b.Data) > 0 {
			if e := m.d.Write(0, 128*b.N+64, b.Data); e != api.OK {
				return e
			}
		}
	}
	return m.d.Sync(0)
}

// text returns the encoding of a change.
func text(l []api.Block) string {
	s := strconv.Itoa(len(l)) + ";"
	for _, b := range l {
		s += strconv.Itoa(b.N) + ";" + strconv.Itoa(len(b.Data)) + ":" + b.Data + ","
	}
	return s
}

// changeOf returns the right change whose encoding is s: it reads what may be one, and checks that its encoding is s.
func changeOf(s string) ([]api.Block, bool) {
	head, rest, _ := strings.Cut(s, ";")
	size, _ := strconv.Atoi(head)
	var l []api.Block
	for range min(size, api.MaxBlocks) {
		n, after, _ := strings.Cut(rest, ";")
		length, data, _ := strings.Cut(after, ":")
		number, err := strconv.Atoi(n)
		bytes, _ := strconv.Atoi(length)
		if err != nil || bytes < 0 || bytes >= len(data) {
			return nil, false
		}
		l = append(l, api.Block{N: number, Data: data[:bytes]})
		rest = data[bytes+1:]
	}
	return l, text(l) == s && rightChange(l)
}

func rightChange(l []api.Block) bool {
	for _, b := range l {
		if b.N < 0 || b.N > 2047 || len(b.Data) > 64 {
			return false
		}
	}
	return len(l) <= 2048
}

// blockOf returns the data of the block k of a home.
func blockOf(home string, k int) string {
	if 128*k >= len(home) {
		return ""
	}
	size := int(home[128*k])
	if size == 0 || size > 64 || 128*k+64+size > len(home) {
		return ""
	}
	return home[128*k+64:][:size]
}

// list returns the blocks of a model.
func (m *model) list() []api.Block {
	var l []api.Block
	for n, s := range m.blocks {
		if s != "" {
			l = append(l, api.Block{N: n, Data: s})
		}
	}
	return l
}

// after returns the blocks, sorted, that there are after a change.
func after(blocks, change []api.Block) []api.Block {
	m := model{}
	for _, b := range slices.Concat(blocks, change) {
		m.blocks[b.N] = b.Data
	}
	return m.list()
}

// sameDisk compares two disks: their files now, and as a crash leaves them.
func sameDisk(t *testing.T, a, b *disk.Disk, keep []int) {
	t.Helper()
	if a.Down() != b.Down() {
		t.Fatal("one machine is down")
	}
	sameFiles(t, a, b)
	if !a.Down() {
		x, y := a.Copy(), b.Copy()
		x.Crash(keep)
		y.Crash(keep)
		x.Start()
		y.Start()
		sameFiles(t, x, y)
	}
}

// sameFiles compares the files of two disks; if the machines are down, their sizes.
func sameFiles(t *testing.T, a, b *disk.Disk) {
	t.Helper()
	for f := range 16 {
		if a.Size(f) != b.Size(f) || bytesOf(a, f) != bytesOf(b, f) {
			t.Fatalf("the file %d differs", f)
		}
	}
}

func randomKeep(r *rand.Rand) []int {
	keep := make([]int, r.Intn(6))
	for i := range keep {
		keep[i] = r.Intn(2)
	}
	return keep
}

// randomBlock returns a block; rarely one that is not right.
func randomBlock(r *rand.Rand) api.Block {
	n, size := r.Intn(12), r.Intn(65)
	switch r.Intn(40) {
	case 0:
		n = 2047 - r.Intn(2)
	case 1, 2, 3, 4, 5, 6, 7, 8:
		size = 0
	}
	switch r.Intn(200) {
	case 0:
		n = -1
	case 1:
		n = 2048
	case 2:
		size = 65
	}
	return api.Block{N: n, Data: strings.Repeat(string(rune('a'+r.Intn(26))), size)}
}

func randomChange(r *rand.Rand) []api.Block {
	l := make([]api.Block, r.Intn(9))
	for i := range l {
		l[i] = randomBlock(r)
	}
	return l
}

// sameBlocks compares a journal with a model.
func sameBlocks(t *testing.T, j *Journal, m *model) {
	t.Helper()
	if got := j.Blocks(); !slices.Equal(got, m.list()) {
		t.Fatalf("Blocks() = %v, want %v", got, m.list())
	}
	for _, n := range []int{-1, 0, 1, 5, 11, 12, 2046, 2047, 2048} {
		want := ""
		if 0 <= n && n < len(m.blocks) {
			want = m.blocks[n]
		}
		if got := j.Read(n); got != want {
			t.Fatalf("Read(%d) = %q, want %q", n, got, want)
		}
	}
}

// P5.1 to P5.3, P5.5, P5.6: a journal does on its disk, call by call, what the chapter says, whatever is lost and whenever it
// crashes; and its blocks are those after the changes that returned OK, or after these and the one that was interrupted.
func TestModel(t *testing.T) {
	r := rand.New(rand.NewSource(5))
	for range 60 {
		modelRun(t, r)
	}
}

func modelRun(t *testing.T, r *rand.Rand) {
	d := disk.New()
	m := &model{d: disk.New()}
	j := open(t, d, 0)
	m.open()
	allowed := [][]api.Block{nil} // the blocks that may be found by the next Open
	for range 40 {
		switch r.Intn(8) {
		case 0:
			n := r.Intn(4)
			d.Lose(n)
			m.d.Lose(n)
		case 1:
			n, keep := r.Intn(30), randomKeep(r)
			d.Arm(n, keep)
			m.d.Arm(n, keep)
		case 2:
			keep := randomKeep(r)
			d.Crash(keep)
			m.d.Crash(keep)
		default:
			l := randomChange(r)
			before := m.list()
			e := j.Commit(l)
			if want := m.commit(l); e != want {
				t.Fatalf("Commit of %v = %d, want %d", l, e, want)
			}
			if e == api.OK {
				allowed = [][]api.Block{after(before, l)}
			} else if e != api.ErrArg && e != api.ErrState {
				allowed = append(allowed, after(before, l))
			}
			sameBlocks(t, j, m)
		}
		sameDisk(t, d, m.d, randomKeep(r))
		if d.Down() || r.Intn(6) == 0 {
			j = reopen(t, d, m)
			allowed = checkBlocks(t, j, allowed)
		}
	}
}

// reopen starts the machines, and opens the journals until that succeeds: it may meet a crash, or lost syncs.
func reopen(t *testing.T, d *disk.Disk, m *model) *Journal {
	t.Helper()
	for {
		d.Start()
		m.d.Start()
		j, e := Open(d, 0)
		if want := m.open(); e != want || (j == nil) != (e != api.OK) {
			t.Fatalf("Open = %v, %d, want %d", j, e, want)
		}
		sameDisk(t, d, m.d, []int{1, 0})
		switch e {
		case api.OK:
			sameBlocks(t, j, m)
			return j
		case api.ErrDown, api.ErrLost:
		default:
			t.Fatalf("Open = %d", e)
		}
	}
}

// checkBlocks checks the blocks of a journal that was opened again, and returns what is allowed from then on.
func checkBlocks(t *testing.T, j *Journal, allowed [][]api.Block) [][]api.Block {
	t.Helper()
	got := j.Blocks()
	if !slices.ContainsFunc(allowed, func(l []api.Block) bool { return slices.Equal(l, got) }) {
		t.Fatalf("the blocks %v are none of %d possible ones", got, len(allowed))
	}
	return [][]api.Block{got}
}

// keeps are what crashes keep: nothing, everything, and some of it.
var keeps = [][]int{nil, {1}, {1, 0}, {0, 1}, {1, 0, 0}, {0, 1, 0}, {0, 0, 1}, {1, 1, 0, 0, 1, 0, 1}}

// P5.5, P5.6: a crash at any call of a Commit, and then at any call of the Open after it, leaves all of the change or none.
func TestCrashes(t *testing.T) {
	full := strings.Repeat("f", 64)
	old := []api.Block{{N: 1, Data: "one"}, {N: 2, Data: full}, {N: 9, Data: "nine"}}
	change := []api.Block{{N: 2, Data: "now"}, {N: 9}, {N: 1, Data: full}, {N: 30, Data: "thirty"}, {N: 4, Data: "x"}, {N: 4}, {N: 1, Data: full[1:]}}
	for _, again := range []bool{false, true} {
		start := disk.New()
		j := open(t, start, 0)
		commit(t, j, old...)
		seen := map[bool]int{} // how often the change was there, and how often not
		for n := 1; n <= 30; n++ {
			for _, keep := range keeps {
				d := start.Copy()
				j := open(t, d, 0)
				if again { // so that the cell is sure
					commit(t, j, old...)
				}
				d.Arm(n, keep)
				e := j.Commit(change)
				if d.Arm(0, nil); e == api.OK {
					d.Crash(keep)
				}
				has(t, j, map[bool][]api.Block{true: after(old, change), false: old}[e == api.OK]...)
				seen[crashOpen(t, d, e == api.OK, old, after(old, change))]++
			}
		}
		if seen[true] == 0 || seen[false] == 0 {
			t.Errorf("the change was there %d times of %d", seen[true], seen[true]+seen[false])
		}
	}
}

// crashOpen crashes at each call of Open of a disk that is down, and checks the blocks that there are then: always the same
// ones, which have to be the new ones if the Commit has succeeded. It returns whether they are the new ones.
func crashOpen(t *testing.T, down *disk.Disk, committed bool, old, now []api.Block) bool {
	t.Helper()
	first := down.Copy()
	first.Start()
	want := open(t, first, 0).Blocks()
	isNew := slices.Equal(want, now)
	if !isNew && (committed || !slices.Equal(want, old)) {
		t.Fatalf("after a crash the blocks are %v", want)
	}
	for n := 1; ; n++ {
		d := down.Copy()
		d.Start()
		keep := keeps[n%len(keeps)]
		d.Arm(n, keep)
		_, e := Open(d, 0)
		d.Arm(0, nil)
		d.Crash(keep)
		d.Start()
		j := open(t, d, 0)
		if got := j.Blocks(); !slices.Equal(got, want) {
			t.Fatalf("after a crash of Open the blocks are %v, want %v", got, want)
		}
		commit(t, j, api.Block{N: 40, Data: "later"})
		d.Crash(keep)
		d.Start()
		if got := open(t, d, 0).Blocks(); !slices.Equal(got, after(want, []api.Block{{N: 40, Data: "later"}})) {
			t.Fatalf("after a later Commit the blocks are %v", got)
		}
		if e == api.OK {
			return isNew
		}
	}
}

// P5.6: what was committed stays, after many crashes, some of them of later Commits.
func TestCommittedStays(t *testing.T) {
	d := disk.New()
	j := open(t, d, 0)
	want := everyBlock()
	commit(t, j, want...)
	for i := range 24 {
		d.Arm(i%16+1, keeps[i%len(keeps)])
		e := j.Commit([]api.Block{{N: 7, Data: "seven"}, {N: 8, Data: strconv.Itoa(i)}})
		d.Arm(0, nil)
		d.Crash(keeps[i%3])
		d.Start()
		j = open(t, d, 0)
		got := j.Blocks()
		changed := after(want, []api.Block{{N: 7, Data: "seven"}, {N: 8, Data: strconv.Itoa(i)}})
		if !slices.Equal(got, changed) && (e == api.OK || !slices.Equal(got, want)) {
			t.Fatalf("%d: other blocks were changed, or not all of the change is there", i)
		}
		want = got
	}
}

// P5.1: whatever the bytes of the files are, Open does what the chapter says, and Commit works on what it accepts.
func FuzzOpen(f *testing.F) {
	for _, l := range []string{"", "0;", "1;3;1:a,", "2;3;1:a,3;0:,", "1;3;1:a,x", "1;2048;1:a,"} {
		f.Add("", l, strconv.Itoa(len(l))+";")
		f.Add("\x01"+strings.Repeat("y", 400), l, "0;")
		f.Add("\x40"+strings.Repeat("\x10", 900), l, "-1;")
	}
	f.Fuzz(func(t *testing.T, home, log, number string) {
		if len(number) > cell.Max || len(home)+len(log) > 1<<20 {
			return
		}
		d := disk.New()
		lay(t, d, 0, home)
		lay(t, d, 1, log)
		layNumber(t, d, 0, number)
		m := &model{d: d.Copy()}
		j, e := Open(d, 0)
		if want := m.open(); e != want || (j == nil) != (e != api.OK) {
			t.Fatalf("Open = %v, %d, want %d", j, e, want)
		}
		sameDisk(t, d, m.d, []int{0, 1})
		if j == nil {
			return
		}
		sameBlocks(t, j, m)
		l := []api.Block{{N: 3, Data: "new"}, {N: 0}}
		commit(t, j, l...)
		if got := open(t, d, 0).Blocks(); !slices.Equal(got, after(m.list(), l)) {
			t.Fatalf("Blocks() = %v", got)
		}
	})
}
