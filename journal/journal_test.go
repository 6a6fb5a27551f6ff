package journal

import (
	"math"
	"slices"
	"strconv"
	"strings"
	"testing"

	"rehearsal/api"
	"rehearsal/cell"
	"rehearsal/disk"
)

// bytesOf returns a whole file.
func bytesOf(d *disk.Disk, f int) string {
	s, _ := d.Read(f, 0, math.MaxInt)
	return s
}

// lay gives an empty file of a disk these bytes, which are durable.
func lay(t *testing.T, d *disk.Disk, f int, s string) {
	t.Helper()
	if d.Write(f, 0, s) != api.OK || d.Sync(f) != api.OK {
		t.Fatal("the disk does not work")
	}
}

// layNumber sets the cell of a journal with the base f.
func layNumber(t *testing.T, d *disk.Disk, f int, s string) {
	t.Helper()
	c, e := cell.Open(d, f+2)
	if e != api.OK || c.Set(s) != api.OK {
		t.Fatal("the cell does not work")
	}
}

// open opens a journal, which has to succeed.
func open(t *testing.T, d *disk.Disk, base int) *Journal {
	t.Helper()
	j, e := Open(d, base)
	if j == nil || e != api.OK {
		t.Fatalf("Open(%d) = %v, %d", base, j, e)
	}
	return j
}

// commit makes a change, which has to succeed.
func commit(t *testing.T, j *Journal, l ...api.Block) {
	t.Helper()
	if e := j.Commit(l); e != api.OK {
		t.Fatalf("Commit of %d blocks = %d", len(l), e)
	}
}

// has checks the blocks of a journal, each by Read, and all by Blocks.
func has(t *testing.T, j *Journal, want ...api.Block) {
	t.Helper()
	if got := j.Blocks(); !slices.Equal(got, want) {
		t.Errorf("Blocks() = %v, want %v", got, want)
	}
	data := map[int]string{}
	for _, b := range want {
		data[b.N] = b.Data
	}
	for n := -2; n < api.MaxBlocks+2; n++ {
		if got := j.Read(n); got != data[n] {
			t.Errorf("Read(%d) = %q, want %q", n, got, data[n])
		}
	}
}

// image returns a file with these bytes at these offsets.
func image(parts map[int]string) string {
	var b []byte
	for at, s := range parts {
		if grown := at + len(s) - len(b); grown > 0 {
			b = append(b, make([]byte, grown)...)
		}
		copy(b[at:], s)
	}
	return string(b)
}

// repeated returns a change of n equal blocks.
func repeated(n int, b api.Block) []api.Block { return slices.Repeat([]api.Block{b}, n) }

// everyBlock returns all blocks, each with data of 64 bytes of its own.
func everyBlock() []api.Block {
	var l []api.Block
	for n := range api.MaxBlocks {
		s := strconv.Itoa(n)
		l = append(l, api.Block{N: n, Data: s + strings.Repeat("-", 64-len(s))})
	}
	return l
}

// calls returns the number of calls of the disk in f that Arm counts.
func calls(t *testing.T, d *disk.Disk, f func(d *disk.Disk) api.Errno) int {
	t.Helper()
	for n := 1; ; n++ {
		c := d.Copy()
		c.Arm(n, nil)
		if e := f(c); e == api.OK {
			return n - 1
		} else if e != api.ErrDown || !c.Down() {
			t.Fatalf("a crash at the call %d: %d", n, e)
		}
	}
}

// The examples of the chapter.
func TestExamples(t *testing.T) {
	d := disk.New()
	j := open(t, d, 0)
	has(t, j)
	commit(t, j, api.Block{N: 5, Data: "a"}, api.Block{N: 7, Data: "b"})
	if got := j.Read(5); got != "a" {
		t.Errorf("Read(5) = %q", got)
	}
	has(t, j, api.Block{N: 5, Data: "a"}, api.Block{N: 7, Data: "b"})
	commit(t, j, api.Block{N: 5}, api.Block{N: 9, Data: "c"})
	has(t, open(t, d, 0), api.Block{N: 7, Data: "b"}, api.Block{N: 9, Data: "c"})
}

// P5.1: the base comes before all other errors.
func TestOpenBase(t *testing.T) {
	d := disk.New()
	for base := range 14 {
		has(t, open(t, d, base))
	}
	bad := []int{-1, -2, -16, 14, 15, 16, 100, math.MaxInt, math.MaxInt - 1, math.MinInt}
	for range 2 {
		for _, base := range bad {
			if j, e := Open(d, base); j != nil || e != api.ErrArg {
				t.Errorf("Open(%d) = %v, %d", base, j, e)
			}
		}
		d.Crash(nil)
	}
	for base := range 14 {
		if j, e := Open(d, base); j != nil || e != api.ErrDown {
			t.Errorf("Open(%d) of a machine that is down = %v, %d", base, j, e)
		}
	}
}

// P5.1: a journal uses its three files, and no other ones.
func TestFiles(t *testing.T) {
	d := disk.New()
	l := map[int]*Journal{}
	for _, base := range []int{13, 0, 6, 9, 3} {
		l[base] = open(t, d, base)
		commit(t, l[base], api.Block{N: base, Data: strconv.Itoa(base)})
		for f := range 16 {
			used := slices.ContainsFunc([]int{13, 0, 6, 9, 3}, func(b int) bool { return l[b] != nil && b <= f && f <= b+2 })
			if (d.Size(f) > 0) != used {
				t.Errorf("with the base %d the file %d has %d bytes", base, f, d.Size(f))
			}
		}
	}
	for base, j := range l {
		has(t, j, api.Block{N: base, Data: strconv.Itoa(base)})
		has(t, open(t, d, base), api.Block{N: base, Data: strconv.Itoa(base)})
	}
}

// P5.1: the error of the cell is returned.
func TestOpenCellMalformed(t *testing.T) {
	d := disk.New()
	lay(t, d, 6, "\x03\x00\x00\x00\x00")
	if j, e := Open(d, 4); j != nil || e != api.ErrForm {
		t.Errorf("Open = %v, %d", j, e)
	}
}

// P5.1: without a number that is greater than 0, the log is not looked at, and nothing is written.
func TestOpenWithoutNumber(t *testing.T) {
	for _, s := range []string{"", "0;", "-1;", "-9223372036854775808;", "x", "6", ";", "06;", "+6;", "6;;", " 6;", "6; ", "-0;", "00;", "6;0;",
		"9223372036854775808;", "1:6,", "6:"} {
		for _, log := range []string{"", "rubbish", "1;3;1:a,"} {
			d := disk.New()
			lay(t, d, 0, "\x00")
			lay(t, d, 1, log)
			layNumber(t, d, 0, s)
			before := [3]string{bytesOf(d, 0), bytesOf(d, 1), bytesOf(d, 2)}
			d.Arm(1, nil)
			j := open(t, d, 0)
			has(t, j)
			if now := [3]string{bytesOf(d, 0), bytesOf(d, 1), bytesOf(d, 2)}; now != before {
				t.Errorf("%q: Open has changed the files", s)
			}
			d.Arm(0, nil)
			commit(t, j, api.Block{N: 3, Data: "b"})
			has(t, open(t, d, 0), api.Block{N: 3, Data: "b"})
		}
	}
}

// P5.1: the first bytes of the log have to be the encoding of a right change, and nothing else.
func TestOpenLogMalformed(t *testing.T) {
	long := strings.Repeat("x", 65)
	for _, s := range []string{
		"x", ";", "0", "00;", "-0;", "-1;", "0;0;", "0; ", " 0;", "1;", "1;3;", "1;3;1:a", "1;3;2:a,", "1;3;1:a,x", "1;3;1:a,3;1:a,", "2;3;1:a,",
		"1;03;1:a,", "1;-0;1:a,", "1;3;01:a,", "01;3;1:a,", "1[3;1:a,]", "1;1:a,3;", "1;-1;1:a,", "1;2048;1:a,", "1;-1;0:,", "1;2048;0:,",
		"1;9223372036854775807;1:a,", "1;-9223372036854775808;1:a,", "1;9223372036854775808;1:a,", "1;3;65:" + long + ",", "2;3;1:a,4;65:" + long + ",",
		"2;3;1:a,2048;0:,", "2049;" + strings.Repeat("3;1:a,", 2049), "2049;" + strings.Repeat("3;1:a,", 2048), "2048;" + strings.Repeat("3;1:a,", 2049),
		"2048;" + strings.Repeat("3;1:a,", 2047), "9223372036854775807;3;1:a,",
	} {
		d := disk.New()
		lay(t, d, 0, "\x00")
		lay(t, d, 1, s)
		layNumber(t, d, 0, strconv.Itoa(len(s))+";")
		before := [3]string{bytesOf(d, 0), bytesOf(d, 1), bytesOf(d, 2)}
		if j, e := Open(d, 0); j != nil || e != api.ErrForm {
			t.Errorf("%.40q: Open = %v, %d", s, j, e)
		}
		if now := [3]string{bytesOf(d, 0), bytesOf(d, 1), bytesOf(d, 2)}; now != before {
			t.Errorf("%.40q: Open has changed the files", s)
		}
	}
}

// P5.1: the number says how many bytes of the log count.
func TestOpenLogLength(t *testing.T) {
	log := "1;3;2:ab,2;3;1:c,"
	for size := range len(log) + 3 {
		d := disk.New()
		lay(t, d, 1, log)
		layNumber(t, d, 0, strconv.Itoa(size)+";")
		j, e := Open(d, 0)
		if want := size == 0 || size == 9; want != (e == api.OK) || want != (j != nil) || !want && e != api.ErrForm {
			t.Errorf("of %d bytes: Open = %v, %d", size, j, e)
		}
		if size == 9 {
			has(t, j, api.Block{N: 3, Data: "ab"})
		}
	}
	// Of a log that is shorter, disk.Read returns what there is.
	for _, n := range []string{"9;", "10;", "9223372036854775807;"} {
		d := disk.New()
		lay(t, d, 1, log[:9])
		layNumber(t, d, 0, n)
		has(t, open(t, d, 0), api.Block{N: 3, Data: "ab"})
	}
}

// P5.1: the change of the log is brought home, in its order, and the home and the cell are durable then.
func TestOpenBringsHome(t *testing.T) {
	for _, c := range []struct {
		log  string
		want []api.Block
	}{
		{"0;", []api.Block{{N: 3, Data: "old"}}},
		{"1;3;1:a,", []api.Block{{N: 3, Data: "a"}}},
		{"1;3;0:,", nil},
		{"1;0;1:a,", []api.Block{{N: 0, Data: "a"}, {N: 3, Data: "old"}}},
		{"2;2047;2:,;,0;1:a,", []api.Block{{N: 0, Data: "a"}, {N: 3, Data: "old"}, {N: 2047, Data: ",;"}}},
		{"3;3;1:a,3;3:bcd,3;2:ef,", []api.Block{{N: 3, Data: "ef"}}},
		{"2;3;1:a,3;0:,", nil},
		{"2;3;0:,3;1:a,", []api.Block{{N: 3, Data: "a"}}},
		{"1;3;64:" + strings.Repeat("\x00\xff", 32) + ",", []api.Block{{N: 3, Data: strings.Repeat("\x00\xff", 32)}}},
		{"2048;" + strings.Repeat("3;1:a,", 2048), []api.Block{{N: 3, Data: "a"}}},
	} {
		d := disk.New()
		commit(t, open(t, d, 0), api.Block{N: 3, Data: "old"})
		d.Truncate(1, 0)
		lay(t, d, 1, c.log)
		layNumber(t, d, 0, strconv.Itoa(len(c.log))+";")
		has(t, open(t, d, 0), c.want...)
		d.Crash(nil)
		d.Start()
		if n, _ := cell.Open(d, 2); n == nil {
			t.Error("the cell is gone")
		} else if s, _ := n.Get(); s != "0;" {
			t.Errorf("%.40q: %q is noted", c.log, s)
		}
		if bytesOf(d, 1) != c.log {
			t.Errorf("%.40q: Open has changed the log", c.log)
		}
		d.Truncate(1, 0)
		has(t, open(t, d, 0), c.want...)
	}
}

// P5.1: the calls of the disk that bring a change home, and what they return.
func TestOpenErrorsOfDisk(t *testing.T) {
	log := "3;3;1:a,4;0:,5;2:bc,"
	prepare := func() *disk.Disk {
		d := disk.New()
		lay(t, d, 1, log)
		layNumber(t, d, 0, strconv.Itoa(len(log))+";")
		return d
	}
	reopen := func(d *disk.Disk) api.Errno {
		j, e := Open(d, 0)
		if (j == nil) != (e != api.OK) {
			t.Errorf("Open = %v, %d", j, e)
		}
		return e
	}
	// Three lengths, the data of two, a Sync, and the Set of a cell that was opened.
	if got := calls(t, prepare(), reopen); got != 3+2+1+5 {
		t.Errorf("Open makes %d calls", got)
	}
	// The first sync is that of the home: if it is lost, the change is brought home again by the next Open.
	for n := 1; n < 4; n++ {
		d := prepare()
		d.Lose(n)
		for range n {
			if e := reopen(d); e != api.ErrLost {
				t.Errorf("Open = %d", e)
			}
		}
		if c, _ := cell.Open(d, 2); c == nil {
			t.Error("the cell is gone")
		} else if s, _ := c.Get(); s != strconv.Itoa(len(log))+";" {
			t.Errorf("%q is noted after a lost sync", s)
		}
		has(t, open(t, d, 0), api.Block{N: 3, Data: "a"}, api.Block{N: 5, Data: "bc"})
	}
}

// P5.1: what in the home is no block has no data.
func TestOpenHome(t *testing.T) {
	full := strings.Repeat("x", 64)
	for i, c := range []struct {
		home map[int]string
		want []api.Block
	}{
		{nil, nil},
		{map[int]string{0: "\x01"}, nil},
		{map[int]string{0: "\x01", 63: "y"}, nil},
		{map[int]string{0: "\x01", 64: "y"}, []api.Block{{N: 0, Data: "y"}}},
		{map[int]string{0: "\x01rest", 64: "yz"}, []api.Block{{N: 0, Data: "y"}}},
		{map[int]string{0: "\x03", 64: "yz"}, nil},
		{map[int]string{0: "\x03", 64: "\x00y\xff"}, []api.Block{{N: 0, Data: "\x00y\xff"}}},
		{map[int]string{0: "\x00", 64: full}, nil},
		{map[int]string{0: "\x40", 64: full}, []api.Block{{N: 0, Data: full}}},
		{map[int]string{0: "\x40", 64: full[1:]}, nil},
		{map[int]string{0: "\x41", 64: full + full}, nil},
		{map[int]string{0: "\xff", 64: strings.Repeat(full, 5)}, nil},
		{map[int]string{0: "\x80", 64: strings.Repeat(full, 5)}, nil},
		{map[int]string{128: "\x01", 192: "y"}, []api.Block{{N: 1, Data: "y"}}},
		{map[int]string{127: "\x01", 191: "y", 400: ""}, nil},
		{map[int]string{0: "\x41", 64: full, 128: "\x02", 192: "yz", 256: "\x02", 320: "a", 321: ""}, []api.Block{{N: 1, Data: "yz"}}},
		{map[int]string{2047 * 128: "\x40", 2047*128 + 64: full}, []api.Block{{N: 2047, Data: full}}},
		{map[int]string{2047 * 128: "\x40", 2047*128 + 64: full[1:]}, nil},
		{map[int]string{2048 * 128: "\x40", 2048*128 + 64: full + full}, nil},
		{map[int]string{2047 * 128: "\x01", 2047*128 + 64: "y", 2048 * 128: "\x01" + full + full}, []api.Block{{N: 2047, Data: "y"}}},
	} {
		d := disk.New()
		lay(t, d, 0, image(c.home))
		j := open(t, d, 0)
		has(t, j, c.want...)
		commit(t, j, api.Block{N: 77, Data: "new"})
		if got := open(t, d, 0).Read(77); got != "new" {
			t.Errorf("%d: Read(77) = %q", i, got)
		}
	}
}

// P5.2: a change that is not right changes nothing, and does no harm.
func TestCommitNotRight(t *testing.T) {
	d := disk.New()
	j := open(t, d, 0)
	commit(t, j, api.Block{N: 1, Data: "a"})
	good := api.Block{N: 2, Data: "b"}
	long := strings.Repeat("x", 65)
	before := [3]string{bytesOf(d, 0), bytesOf(d, 1), bytesOf(d, 2)}
	d.Arm(1, nil)
	for i, l := range [][]api.Block{
		{{N: -1, Data: "a"}}, {{N: 2048, Data: "a"}}, {{N: -1}}, {{N: 2048}}, {{N: math.MinInt}}, {{N: math.MaxInt, Data: "a"}},
		{{N: 0, Data: long}}, {{N: 2047, Data: long + long}}, {good, {N: -1}}, {{N: 2048}, good}, {good, good, {N: 3, Data: long}, good},
		{good, {N: 2, Data: long}, good}, repeated(2049, good), repeated(2049, api.Block{}), append(everyBlock(), good), repeated(5000, good),
	} {
		if e := j.Commit(l); e != api.ErrArg {
			t.Errorf("%d: Commit = %d", i, e)
		}
	}
	if now := [3]string{bytesOf(d, 0), bytesOf(d, 1), bytesOf(d, 2)}; now != before || d.Down() {
		t.Error("Commit has changed the files")
	}
	d.Arm(0, nil)
	has(t, j, api.Block{N: 1, Data: "a"})
	commit(t, j, good)
	has(t, j, api.Block{N: 1, Data: "a"}, good)
	has(t, open(t, d, 0), api.Block{N: 1, Data: "a"}, good)
}

// P5.2: the last element with a number counts; a block without data is not there.
func TestCommit(t *testing.T) {
	full := strings.Repeat("z", 64)
	d := disk.New()
	j := open(t, d, 2)
	for _, c := range []struct{ change, want []api.Block }{
		{nil, nil},
		{[]api.Block{{N: 4}}, nil},
		{[]api.Block{{N: 4, Data: "long"}}, []api.Block{{N: 4, Data: "long"}}},
		{[]api.Block{{N: 4, Data: "s"}}, []api.Block{{N: 4, Data: "s"}}},
		{[]api.Block{}, []api.Block{{N: 4, Data: "s"}}},
		{[]api.Block{{N: 4}, {N: 4, Data: "a"}, {N: 3, Data: "x"}, {N: 4, Data: "bb"}}, []api.Block{{N: 3, Data: "x"}, {N: 4, Data: "bb"}}},
		{[]api.Block{{N: 4, Data: "c"}, {N: 4}}, []api.Block{{N: 3, Data: "x"}}},
		{[]api.Block{{N: 2047, Data: full}, {N: 0, Data: "\x00"}}, []api.Block{{N: 0, Data: "\x00"}, {N: 3, Data: "x"}, {N: 2047, Data: full}}},
		{[]api.Block{{N: 2047, Data: full[1:]}}, []api.Block{{N: 0, Data: "\x00"}, {N: 3, Data: "x"}, {N: 2047, Data: full[1:]}}},
		{repeated(2048, api.Block{N: 3, Data: "y"}), []api.Block{{N: 0, Data: "\x00"}, {N: 3, Data: "y"}, {N: 2047, Data: full[1:]}}},
		{everyBlock(), everyBlock()},
		{[]api.Block{{N: 0}}, everyBlock()[1:]},
	} {
		commit(t, j, c.change...)
		has(t, j, c.want...)
		has(t, open(t, d, 2), c.want...)
	}
}

// P5.2: what stands in the files after a Commit.
func TestCommitFiles(t *testing.T) {
	d := disk.New()
	j := open(t, d, 0)
	commit(t, j, api.Block{N: 2, Data: "long data"}, api.Block{N: 0, Data: "a"})
	commit(t, j, api.Block{N: 2, Data: ",b"}, api.Block{N: 1})
	home := image(map[int]string{0: "\x01", 64: "a", 128: "\x00", 256: "\x02", 320: ",bng data"})
	number := image(map[int]string{0: "\x02\x02\x00\x00\x00", 64: "14;", 131072: "0;"})
	for f, want := range []string{home, "2;2;2:,b,1;0:,", number} {
		if got := bytesOf(d, f); got != want {
			t.Errorf("the file %d has %d bytes, want %d, or other ones: %.60q", f, len(got), len(want), got)
		}
	}
}

// P5.2: Commit makes these calls of the disk, and no other ones: the last element of a number does not replace those before it.
func TestCommitCalls(t *testing.T) {
	fresh := disk.New()
	used := disk.New()
	commit(t, open(t, used, 0), api.Block{N: 1, Data: "a"})
	for _, c := range []struct {
		change []api.Block
		want   int // the log, the cell twice, the home
	}{
		{nil, 3 + 8 + 1},
		{[]api.Block{{N: 1, Data: "b"}}, 3 + 8 + 2 + 1},
		{[]api.Block{{N: 1}}, 3 + 8 + 1 + 1},
		{[]api.Block{{N: 1, Data: "b"}, {N: 1}, {N: 1, Data: "b"}, {N: 5}}, 3 + 8 + 6 + 1},
	} {
		f := func(d *disk.Disk) api.Errno { return open(t, d, 0).Commit(c.change) }
		if got := calls(t, fresh, f); got != c.want {
			t.Errorf("%v: Commit makes %d calls, want %d", c.change, got, c.want)
		}
		if got := calls(t, used, f); got != c.want+1 { // the cell that was opened is not sure
			t.Errorf("%v: Commit makes %d calls, want %d", c.change, got, c.want+1)
		}
	}
}

// stays checks that a journal whose Commit has returned an error of the disk keeps its blocks, and changes nothing any more.
func stays(t *testing.T, d *disk.Disk, j *Journal, want ...api.Block) {
	t.Helper()
	files := func() (l [16]string) {
		c := d.Copy()
		c.Start()
		for f := range l {
			l[f] = bytesOf(c, f)
		}
		return l
	}
	before := files()
	for _, l := range [][]api.Block{nil, {{N: 5, Data: "x"}}, {{N: -1}}, repeated(2049, api.Block{})} {
		if e := j.Commit(l); e != api.ErrState {
			t.Errorf("Commit after an error = %d", e)
		}
		has(t, j, want...)
	}
	if files() != before {
		t.Error("Commit after an error has changed the files")
	}
}

// P5.2, P5.3: after an error of the disk, at any call, every Commit returns ErrState, and the blocks are those from before.
func TestCommitCrashes(t *testing.T) {
	old := api.Block{N: 1, Data: "old"}
	for n := 1; n <= 15; n++ {
		d := disk.New()
		j := open(t, d, 0)
		commit(t, j, old)
		d.Arm(n, []int{1})
		if e := j.Commit([]api.Block{{N: 1, Data: "new"}, {N: 2}}); e != api.ErrDown {
			t.Errorf("a crash at the call %d: Commit = %d", n, e)
		}
		stays(t, d, j, old)
	}
}

// P5.2: the first sync is that of the log: if it is lost, neither the cell nor the home has changed.
func TestCommitLost(t *testing.T) {
	d := disk.New()
	j := open(t, d, 0)
	commit(t, j, api.Block{N: 1, Data: "old"})
	home, number := bytesOf(d, 0), bytesOf(d, 2)
	for n := 1; n < 4; n++ {
		d.Lose(n)
		for range n {
			if e := j.Commit([]api.Block{{N: 1, Data: "new"}}); e != api.ErrLost {
				t.Errorf("Commit = %d", e)
			}
			stays(t, d, j, api.Block{N: 1, Data: "old"})
			if bytesOf(d, 0) != home || bytesOf(d, 2) != number || bytesOf(d, 1) != "1;1;3:new," {
				t.Error("a lost sync does not end the Commit")
			}
			j = open(t, d, 0)
			has(t, j, api.Block{N: 1, Data: "old"})
		}
	}
	commit(t, j, api.Block{N: 1, Data: "new"})
	has(t, open(t, d, 0), api.Block{N: 1, Data: "new"})
}

// P5.2: a machine that is down is an error of the disk, but comes after the arguments.
func TestCommitDown(t *testing.T) {
	d := disk.New()
	j := open(t, d, 0)
	d.Crash(nil)
	if e := j.Commit([]api.Block{{N: -1}}); e != api.ErrArg {
		t.Errorf("Commit = %d", e)
	}
	if e := j.Commit([]api.Block{{N: 1}}); e != api.ErrDown {
		t.Errorf("Commit = %d", e)
	}
	if e := j.Commit([]api.Block{{N: -1}}); e != api.ErrState {
		t.Errorf("Commit = %d", e)
	}
}

// P5.3: blocks that are not there have no data, whatever their number.
func TestRead(t *testing.T) {
	j := open(t, disk.New(), 0)
	commit(t, j, api.Block{N: 0, Data: "first"}, api.Block{N: 2047, Data: "last"})
	for n, want := range map[int]string{0: "first", 2047: "last", 1: "", -1: "", 2048: "", math.MinInt: "", math.MaxInt: ""} {
		if got := j.Read(n); got != want {
			t.Errorf("Read(%d) = %q", n, got)
		}
	}
}

// P5.3: the blocks are sorted by their numbers, in whichever order they came.
func TestBlocksSorted(t *testing.T) {
	d := disk.New()
	j := open(t, d, 0)
	l := everyBlock()
	for i := range l {
		k := i * 1237 % len(l) // 1237 and 2048 have no common factor
		l[i], l[k] = l[k], l[i]
	}
	commit(t, j, l...)
	has(t, j, everyBlock()...)
	has(t, open(t, d, 0), everyBlock()...)
}

// P5.4: neither a list that was given nor one that was returned is kept, and a list is not changed.
func TestMemory(t *testing.T) {
	d := disk.New()
	j := open(t, d, 0)
	l := []api.Block{{N: 2, Data: "b"}, {N: 1, Data: "a"}, {N: 2, Data: "c"}, {N: 9, Data: "beyond"}}
	given := slices.Clone(l)
	commit(t, j, l[:3]...)
	if !slices.Equal(l, given) {
		t.Errorf("Commit has changed its argument: %v", l)
	}
	clear(l)
	want := []api.Block{{N: 1, Data: "a"}, {N: 2, Data: "c"}}
	has(t, j, want...)
	got := j.Blocks()
	other := j.Blocks()
	clear(got)
	if !slices.Equal(other, want) {
		t.Error("the results share memory")
	}
	_ = append(other[:0], api.Block{N: 7, Data: "x"})
	has(t, j, want...)
	has(t, open(t, d, 0), want...)
}
