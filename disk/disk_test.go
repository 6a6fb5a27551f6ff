package disk

import (
	"math"
	"slices"
	"strings"
	"testing"

	"rehearsal/api"
)

var notFiles = []int{-1, 16, 17, math.MaxInt, math.MinInt}

// all returns a whole file.
func all(d *Disk, f int) string {
	s, _ := d.Read(f, 0, math.MaxInt)
	return s
}

// durable returns the durable part of a file.
func durable(d *Disk, f int) string {
	c := d.Copy()
	c.Crash(nil)
	c.Start()
	return all(c, f)
}

// crashed returns a file as a crash leaves it.
func crashed(d *Disk, f int, keep ...int) string {
	c := d.Copy()
	c.Crash(keep)
	c.Start()
	return all(c, f)
}

// write writes, which has to succeed.
func write(t *testing.T, d *Disk, f, at int, s string) {
	t.Helper()
	if e := d.Write(f, at, s); e != api.OK {
		t.Fatalf("Write(%d, %d, %d bytes) = %d", f, at, len(s), e)
	}
}

// sync syncs, which has to succeed.
func sync(t *testing.T, d *Disk, f int) {
	t.Helper()
	if e := d.Sync(f); e != api.OK {
		t.Fatalf("Sync(%d) = %d", f, e)
	}
}

// check compares a file, and its durable part, with what they should be.
func check(t *testing.T, d *Disk, f int, file, hard string) {
	t.Helper()
	if got := all(d, f); got != file || d.Size(f) != len(file) {
		t.Errorf("the file %d is %q with Size() = %d, want %q", f, got, d.Size(f), file)
	}
	if got := durable(d, f); got != hard {
		t.Errorf("the durable part of %d is %q, want %q", f, got, hard)
	}
}

// P3.1: a new disk is up, and has nothing in its files.
func TestNew(t *testing.T) {
	d := New()
	if d.Down() {
		t.Error("a new disk is down")
	}
	for f := range 16 {
		check(t, d, f, "", "")
	}
	d.Crash([]int{1})
	for f := range 16 {
		if d.Size(f) != 0 {
			t.Errorf("file %d has pending sectors", f)
		}
	}
	if a, b := New(), New(); a.Write(0, 0, "a") != api.OK || b.Size(0) != 0 {
		t.Error("new disks share their files")
	}
}

// P3.1: Size knows no other files than 0 to 15, and does not mind a machine that is down.
func TestSize(t *testing.T) {
	d := New()
	for f := range 16 {
		write(t, d, f, f, "ab")
		sync(t, d, f)
	}
	for _, down := range []bool{false, true} {
		for f := range 16 {
			if got := d.Size(f); got != f+2 {
				t.Errorf("down = %t: Size(%d) = %d", down, f, got)
			}
		}
		for _, f := range notFiles {
			if got := d.Size(f); got != 0 {
				t.Errorf("down = %t: Size(%d) = %d", down, f, got)
			}
		}
		d.Crash(nil)
	}
}

// P3.1: the size of a machine that is down is that of what has survived.
func TestSizeAfterCrash(t *testing.T) {
	d := New()
	write(t, d, 3, 0, strings.Repeat("x", 70))
	if d.Crash([]int{1, 0}); d.Size(3) != 64 || !d.Down() {
		t.Errorf("Size() = %d, Down() = %t", d.Size(3), d.Down())
	}
	if d.Start(); d.Size(3) != 64 || d.Down() {
		t.Errorf("Size() = %d, Down() = %t", d.Size(3), d.Down())
	}
}

// P3.1: a copy and its original change independently.
func TestCopyIsIndependent(t *testing.T) {
	d := New()
	write(t, d, 0, 0, "abcd")
	sync(t, d, 0)
	write(t, d, 0, 1, "B")
	for _, changesCopy := range []bool{false, true} {
		a := d.Copy()
		b := a.Copy()
		if changesCopy {
			a, b = b, a
		}
		write(t, a, 0, 2, "CDE")
		write(t, a, 1, 0, "other")
		check(t, a, 0, "aBCDE", "abcd")
		check(t, b, 0, "aBcd", "abcd")
		sync(t, a, 0)
		check(t, a, 0, "aBCDE", "aBCDE")
		check(t, b, 0, "aBcd", "abcd")
		if e := a.Truncate(0, 1); e != api.OK {
			t.Error(e)
		}
		a.Lose(1)
		a.Arm(1, []int{1})
		a.Crash(nil)
		if b.Down() || b.Size(1) != 0 || b.Sync(0) != api.OK {
			t.Error("the other copy has changed")
		}
		check(t, b, 0, "aBcd", "aBcd")
	}
	check(t, d, 0, "aBcd", "abcd")
}

// P3.1: a copy has the pending sectors in their order, and what Lose and Arm have set.
func TestCopyHasEverything(t *testing.T) {
	d := New()
	write(t, d, 0, 64, "b")
	write(t, d, 0, 0, "a")
	d.Lose(2)
	d.Arm(4, []int{0, 1})
	c := d.Copy().Copy()
	got := []api.Errno{c.Sync(0), c.Sync(0), c.Write(0, 64, "B"), c.Sync(0)}
	if want := []api.Errno{api.ErrLost, api.ErrLost, api.OK, api.ErrDown}; !slices.Equal(got, want) {
		t.Errorf("%v, want %v", got, want)
	}
	if c.Start(); all(c, 0) != "a"+strings.Repeat("\x00", 63) {
		t.Errorf("not the second one of the pending sectors survives: %q", all(c, 0))
	}
	d.Crash(nil)
	if c := d.Copy(); !c.Down() || c.Write(0, 0, "x") != api.ErrDown {
		t.Error("the copy of a disk that is down is up")
	}
}

// P3.2: a machine that is down refuses everything, before it looks at the arguments.
func TestDown(t *testing.T) {
	d := New()
	write(t, d, 0, 0, "abc")
	sync(t, d, 0)
	d.Crash(nil)
	d.Lose(1)
	for _, f := range append([]int{0, 15}, notFiles...) {
		for _, at := range []int{-1, 0, 1, 1<<24 + 1} {
			if s, e := d.Read(f, at, 1); s != "" || e != api.ErrDown {
				t.Errorf("Read(%d, %d) = %q, %d", f, at, s, e)
			}
			if e := d.Write(f, at, "x"); e != api.ErrDown {
				t.Errorf("Write(%d, %d) = %d", f, at, e)
			}
			if e := d.Truncate(f, at); e != api.ErrDown {
				t.Errorf("Truncate(%d, %d) = %d", f, at, e)
			}
		}
		if e := d.Sync(f); e != api.ErrDown {
			t.Errorf("Sync(%d) = %d", f, e)
		}
	}
	d.Start()
	if e := d.Sync(0); e != api.ErrLost {
		t.Errorf("a lost sync was used up while the machine was down: %d", e)
	}
	check(t, d, 0, "abc", "abc")
}

// P3.2: what is no file number is refused before anything else is looked at, and changes nothing.
func TestNotFiles(t *testing.T) {
	for _, f := range notFiles {
		d := New()
		d.Lose(1)
		for _, at := range []int{-1, 0, 1<<24 + 1, math.MaxInt} {
			if s, e := d.Read(f, at, 0); s != "" || e != api.ErrArg {
				t.Errorf("Read(%d, %d) = %q, %d", f, at, s, e)
			}
			if e := d.Write(f, at, "x"); e != api.ErrArg {
				t.Errorf("Write(%d, %d) = %d", f, at, e)
			}
			if e := d.Truncate(f, at); e != api.ErrArg {
				t.Errorf("Truncate(%d, %d) = %d", f, at, e)
			}
		}
		if e := d.Sync(f); e != api.ErrArg {
			t.Errorf("Sync(%d) = %d", f, e)
		}
		if e := d.Sync(0); e != api.ErrLost {
			t.Errorf("Sync(%d) has used up a lost sync", f)
		}
		d.Crash([]int{1})
		for g := range 16 {
			if d.Size(g) != 0 {
				t.Errorf("Write(%d) has changed the file %d", f, g)
			}
		}
	}
}

// P3.2: Read returns the bytes that exist.
func TestRead(t *testing.T) {
	d := New()
	write(t, d, 5, 0, "abc\x00\xff")
	cases := []struct {
		at, size int
		want     string
		e        api.Errno
	}{
		{0, 5, "abc\x00\xff", api.OK}, {0, 3, "abc", api.OK}, {1, 2, "bc", api.OK}, {3, 1, "\x00", api.OK}, {2, 0, "", api.OK}, {0, 0, "", api.OK},
		{4, 1, "\xff", api.OK}, {4, 9, "\xff", api.OK}, {5, 0, "", api.OK}, {5, 1, "", api.OK}, {6, 1, "", api.OK}, {0, math.MaxInt, "abc\x00\xff", api.OK},
		{4, math.MaxInt, "\xff", api.OK}, {math.MaxInt, math.MaxInt, "", api.OK}, {math.MaxInt, 0, "", api.OK},
		{-1, 3, "", api.ErrArg}, {0, -1, "", api.ErrArg}, {-1, -1, "", api.ErrArg}, {math.MinInt, math.MinInt, "", api.ErrArg}, {99, -1, "", api.ErrArg}, {-1, 0, "", api.ErrArg},
	}
	for _, c := range cases {
		if s, e := d.Read(5, c.at, c.size); s != c.want || e != c.e {
			t.Errorf("Read(5, %d, %d) = %q, %d", c.at, c.size, s, e)
		}
	}
	if s, e := d.Read(4, 0, 9); s != "" || e != api.OK {
		t.Errorf("Read of an empty file = %q, %d", s, e)
	}
	if got := durable(d, 5); got != "" {
		t.Errorf("Read has made %q durable", got)
	}
}

// P3.2: what has been read stays as it was.
func TestReadIsFresh(t *testing.T) {
	d := New()
	write(t, d, 0, 0, "abc")
	s, _ := d.Read(0, 0, 3)
	write(t, d, 0, 0, "xyz")
	if s != "abc" {
		t.Errorf("Read returned %q", s)
	}
}

// P3.2: Write replaces, extends, and fills with bytes 0.
func TestWrite(t *testing.T) {
	d := New()
	cases := []struct {
		at      int
		s, want string
	}{
		{0, "abc", "abc"}, {1, "X", "aXc"}, {2, "YZ", "aXYZ"}, {4, "!", "aXYZ!"}, {7, "\xff", "aXYZ!\x00\x00\xff"}, {0, "", "aXYZ!\x00\x00\xff"},
		{8, "", "aXYZ!\x00\x00\xff"}, {20, "", "aXYZ!\x00\x00\xff"}, {1 << 24, "", "aXYZ!\x00\x00\xff"}, {0, "123456789", "123456789"},
	}
	for _, c := range cases {
		write(t, d, 1, c.at, c.s)
		check(t, d, 1, c.want, "")
	}
	check(t, d, 0, "", "")
	check(t, d, 2, "", "")
}

// P3.2: what Write refuses, and that it changes nothing then.
func TestWriteErrors(t *testing.T) {
	const most = 1 << 24
	d := New()
	cases := []struct {
		at int
		s  string
		e  api.Errno
	}{
		{-1, "a", api.ErrArg}, {-1, "", api.ErrArg}, {math.MinInt, "", api.ErrArg}, {-1, strings.Repeat("x", most+2), api.ErrArg},
		{most, "a", api.ErrFull}, {most - 1, "ab", api.ErrFull}, {most + 1, "", api.ErrFull}, {0, strings.Repeat("x", most+1), api.ErrFull},
		{math.MaxInt, "", api.ErrFull}, {math.MaxInt, "a", api.ErrFull}, {math.MaxInt - 1, "abc", api.ErrFull},
	}
	for _, c := range cases {
		if e := d.Write(0, c.at, c.s); e != c.e {
			t.Errorf("Write(0, %d, %d bytes) = %d, want %d", c.at, len(c.s), e, c.e)
		}
	}
	check(t, d, 0, "", "")
	if got := crashed(d, 0, 1); got != "" {
		t.Errorf("pending after errors: %q", got)
	}
}

// P3.2: the largest file.
func TestLargestFile(t *testing.T) {
	const most = 1 << 24
	d := New()
	write(t, d, 0, most-1, "z")
	if s, e := d.Read(0, most-2, 9); d.Size(0) != most || s != "\x00z" || e != api.OK {
		t.Errorf("Size() = %d, Read() = %q, %d", d.Size(0), s, e)
	}
	write(t, d, 1, 0, strings.Repeat("x", most))
	sync(t, d, 1)
	d.Crash([]int{0})
	if d.Size(0) != 0 || d.Size(1) != most {
		t.Errorf("Size() = %d, %d", d.Size(0), d.Size(1))
	}
}

// P3.2: the sectors that a write makes pending, in their order; each of them is in the list once.
func TestPendingSectors(t *testing.T) {
	type place struct{ f, at, size int }
	cases := []struct {
		writes []place
		want   []sector
	}{
		{[]place{{0, 0, 1}}, []sector{{0, 0}}},
		{[]place{{0, 63, 1}}, []sector{{0, 0}}},
		{[]place{{0, 64, 1}}, []sector{{0, 1}}},
		{[]place{{0, 63, 2}}, []sector{{0, 0}, {0, 1}}},
		{[]place{{0, 0, 64}}, []sector{{0, 0}}},
		{[]place{{0, 0, 65}}, []sector{{0, 0}, {0, 1}}},
		{[]place{{0, 10, 190}}, []sector{{0, 0}, {0, 1}, {0, 2}, {0, 3}}},
		{[]place{{0, 200, 5}}, []sector{{0, 3}}},
		{[]place{{0, 64, 0}, {0, 0, 0}, {0, 500, 0}}, nil},
		{[]place{{0, 128, 64}, {0, 0, 192}}, []sector{{0, 2}, {0, 0}, {0, 1}}},
		{[]place{{0, 0, 1}, {0, 5, 1}, {0, 0, 64}}, []sector{{0, 0}}},
		{[]place{{1, 0, 1}, {0, 0, 1}, {1, 64, 1}, {1, 0, 1}}, []sector{{1, 0}, {0, 0}, {1, 1}}},
		{[]place{{15, 0, 1}, {0, 0, 1}}, []sector{{15, 0}, {0, 0}}},
	}
	for i, c := range cases {
		d := New()
		for _, p := range c.writes {
			write(t, d, p.f, p.at, strings.Repeat("x", p.size))
		}
		if got := pendingSectors(d, len(c.want)+3); !slices.Equal(got, c.want) {
			t.Errorf("case %d: %v, want %v", i, got, c.want)
		}
	}
}

// pendingSectors returns the list of pending sectors, as far as crashes show it: each sector that survives alone has a byte x.
func pendingSectors(d *Disk, most int) []sector {
	var l []sector
	for i := range most {
		keep := make([]int, most)
		keep[i] = 1
		for f := range 16 {
			if at := strings.IndexByte(crashed(d, f, keep...), 'x'); at >= 0 {
				l = append(l, sector{f, at / 64})
			}
		}
	}
	return l
}

// P3.2: bytes 0 that a write appends before its own are pending only as far as they share a sector with them.
func TestAppendedZeros(t *testing.T) {
	d := New()
	write(t, d, 0, 0, "ab")
	sync(t, d, 0)
	write(t, d, 0, 200, "cd")
	if got := crashed(d, 0, 0); got != "ab" {
		t.Errorf("nothing survives: %q", got)
	}
	if got, want := crashed(d, 0, 1), "ab"+strings.Repeat("\x00", 198)+"cd"; got != want {
		t.Errorf("the sector survives: %q", got)
	}
	if got := crashed(d, 0, 0, 1, 1, 1); got != "ab" {
		t.Errorf("more than one sector is pending: %q", got)
	}
}

// P3.2: Sync makes one file durable, and takes its sectors from the list.
func TestSync(t *testing.T) {
	d := New()
	write(t, d, 0, 0, "a")
	write(t, d, 1, 0, "b")
	write(t, d, 0, 100, "c")
	sync(t, d, 0)
	whole := "a" + strings.Repeat("\x00", 99) + "c"
	check(t, d, 0, whole, whole)
	check(t, d, 1, "b", "")
	if got := crashed(d, 1, 1, 0); got != "b" {
		t.Errorf("the sector of the file 1 is not the first one: %q", got)
	}
	write(t, d, 0, 0, "A")
	if got := crashed(d, 0, 1, 0); got != whole {
		t.Errorf("the sector is not at the end of the list: %q", got)
	}
	if got := crashed(d, 0, 0, 1); got != "A"+whole[1:] {
		t.Errorf("the sector was not listed again: %q", got)
	}
	sync(t, d, 5)
	check(t, d, 5, "", "")
}

// P3.2: a lost sync changes nothing but the number of those that are due, whatever file it is of.
func TestLostSync(t *testing.T) {
	d := New()
	write(t, d, 0, 0, "abc")
	d.Lose(2)
	for _, f := range []int{0, 7} {
		if e := d.Sync(f); e != api.ErrLost {
			t.Errorf("Sync(%d) = %d", f, e)
		}
	}
	check(t, d, 0, "abc", "")
	if got := crashed(d, 0, 1); got != "abc" {
		t.Errorf("the sector is not pending any more: %q", got)
	}
	sync(t, d, 0)
	check(t, d, 0, "abc", "abc")
}

// P3.2: Truncate makes the first bytes durable, and nothing of the file is pending any more.
func TestTruncate(t *testing.T) {
	for size := range 4 {
		d := New()
		write(t, d, 0, 0, "abc")
		write(t, d, 1, 0, "other")
		if e := d.Truncate(0, size); e != api.OK {
			t.Fatalf("Truncate(0, %d) = %d", size, e)
		}
		check(t, d, 0, "abc"[:size], "abc"[:size])
		check(t, d, 1, "other", "")
		if got := crashed(d, 1, 1, 0); got != "other" {
			t.Errorf("a sector of the file 0 is pending: %q", got)
		}
		write(t, d, 0, 0, "X")
		if got := crashed(d, 0, 0, 1); got[:1] != "X" {
			t.Errorf("the sector was not listed again: %q", got)
		}
	}
}

// P3.2: what Truncate refuses, and that it changes nothing then.
func TestTruncateErrors(t *testing.T) {
	d := New()
	write(t, d, 0, 0, "abc")
	for _, size := range []int{-1, 4, 5, math.MaxInt, math.MinInt} {
		if e := d.Truncate(0, size); e != api.ErrArg {
			t.Errorf("Truncate(0, %d) = %d", size, e)
		}
	}
	for _, size := range []int{-1, 1} {
		if e := d.Truncate(1, size); e != api.ErrArg {
			t.Errorf("Truncate(1, %d) = %d", size, e)
		}
	}
	check(t, d, 0, "abc", "")
	if got := crashed(d, 0, 1); got != "abc" {
		t.Errorf("nothing is pending any more: %q", got)
	}
	if e := d.Truncate(1, 0); e != api.OK {
		t.Errorf("Truncate of an empty file = %d", e)
	}
}

// P3.2: what was cut off does not come back, in the file or in its durable part.
func TestCutOffBytesAreGone(t *testing.T) {
	d := New()
	write(t, d, 0, 0, "abcdef")
	sync(t, d, 0)
	if e := d.Truncate(0, 1); e != api.OK {
		t.Fatal(e)
	}
	write(t, d, 0, 4, "X")
	check(t, d, 0, "a\x00\x00\x00X", "a")
	sync(t, d, 0)
	check(t, d, 0, "a\x00\x00\x00X", "a\x00\x00\x00X")
	if d.Truncate(0, 0) != api.OK {
		t.Error("Truncate")
	}
	write(t, d, 0, 2, "Y")
	sync(t, d, 0)
	check(t, d, 0, "\x00\x00Y", "\x00\x00Y")
}

// P3.2: Truncate loses nothing while syncs are lost, and uses none of them up.
func TestTruncateIsNotLost(t *testing.T) {
	d := New()
	write(t, d, 0, 0, "abc")
	d.Lose(1)
	if e := d.Truncate(0, 2); e != api.OK {
		t.Errorf("Truncate = %d", e)
	}
	check(t, d, 0, "ab", "ab")
	if e := d.Sync(0); e != api.ErrLost {
		t.Errorf("Sync = %d", e)
	}
}

// P3.3: Lose replaces the number of lost syncs; a negative one counts as 0.
func TestLose(t *testing.T) {
	for _, c := range [][]int{{0, 0}, {1, 1}, {3, 3}, {-1, 0}, {math.MinInt, 0}, {5, 2, 2}, {2, 5, 5}, {5, 0, 0}, {5, -3, 0}, {2, 2, 2}} {
		d := New()
		for _, n := range c[:len(c)-1] {
			d.Lose(n)
		}
		lost := 0
		for lost < 9 && d.Sync(0) == api.ErrLost {
			lost++
		}
		if lost != c[len(c)-1] {
			t.Errorf("%v: %d lost syncs", c, lost)
		}
	}
	d := New()
	d.Lose(math.MaxInt)
	for range 100 {
		if e := d.Sync(0); e != api.ErrLost {
			t.Errorf("Sync = %d", e)
		}
	}
}

// P3.3: lost syncs stay due over a crash.
func TestLostSyncsOverCrash(t *testing.T) {
	d := New()
	d.Lose(1)
	d.Crash(nil)
	d.Start()
	if d.Sync(0) != api.ErrLost || d.Sync(0) != api.OK {
		t.Error("the lost sync")
	}
	d.Crash(nil)
	d.Lose(1)
	d.Start()
	if d.Sync(0) != api.ErrLost || d.Sync(0) != api.OK {
		t.Error("the lost sync that was set while the machine was down")
	}
}

// P3.3: a pending sector survives if its element of keep, again from the first one on after the last one, is odd.
func TestCrashKeeps(t *testing.T) {
	cases := []struct {
		keep []int
		want string
	}{
		{nil, "....."}, {[]int{}, "....."}, {[]int{0}, "....."}, {[]int{1}, "abcde"}, {[]int{1, 0}, "a.c.e"}, {[]int{0, 1}, ".b.d."}, {[]int{0, 0, 1}, "..c.."},
		{[]int{1, 1, 0}, "ab.de"}, {[]int{0, 1, 0, 0, 0}, ".b..."}, {[]int{0, 0, 0, 0, 1}, "....e"}, {[]int{0, 0, 0, 0, 0, 1}, "....."}, {[]int{2, 3}, ".b.d."},
		{[]int{-1, -2}, "a.c.e"}, {[]int{math.MaxInt, math.MinInt}, "a.c.e"}, {[]int{-2, -3, 4, 5, 6}, ".b.d."},
	}
	for _, c := range cases {
		d := New()
		for f := range 5 {
			write(t, d, f, 0, ".")
			sync(t, d, f)
		}
		for f := range 5 {
			write(t, d, f, 0, "abcde"[f:f+1])
		}
		before := slices.Clone(c.keep)
		d.Crash(c.keep)
		if !slices.Equal(before, c.keep) || !d.Down() {
			t.Errorf("%v: keep is %v, Down() = %t", before, c.keep, d.Down())
		}
		d.Start()
		got := ""
		for f := range 5 {
			s, _ := d.Read(f, 0, 1)
			got += s
		}
		if got != c.want {
			t.Errorf("Crash(%v): %q, want %q", c.keep, got, c.want)
		}
	}
}

// P3.3: the files are what was durable and what survived; the sectors that do not survive leave bytes 0 before those that do.
func TestCrash(t *testing.T) {
	x, zeros := strings.Repeat("x", 64), strings.Repeat("\x00", 64)
	d := New()
	write(t, d, 0, 0, strings.Repeat("x", 200))
	for _, c := range []struct {
		keep []int
		want string
	}{
		{[]int{1}, strings.Repeat("x", 200)}, {[]int{1, 0}, x + zeros + x}, {[]int{0, 1}, zeros + x + zeros + "xxxxxxxx"}, {[]int{0, 0, 0, 1}, zeros + zeros + zeros + "xxxxxxxx"},
		{[]int{1, 1, 0, 0}, x + x}, {[]int{0, 0, 1, 0}, zeros + zeros + x}, {nil, ""},
	} {
		if got := crashed(d, 0, c.keep...); got != c.want {
			t.Errorf("Crash(%v): %q", c.keep, got)
		}
	}
	d.Crash([]int{1, 0})
	d.Start()
	check(t, d, 0, x+zeros+x, x+zeros+x)
}

// P3.3: a sector survives with the bytes that it has when the machine crashes.
func TestLaterWritesOfPendingSectors(t *testing.T) {
	d := New()
	write(t, d, 0, 0, "abc")
	write(t, d, 0, 1, "XYZ")
	if got := crashed(d, 0, 1); got != "aXYZ" {
		t.Errorf("%q", got)
	}
	write(t, d, 0, 60, "0123456789")
	if got := crashed(d, 0, 1, 0); got != "aXYZ"+strings.Repeat("\x00", 56)+"0123" {
		t.Errorf("%q", got)
	}
}

// P3.3: nothing is pending after a crash, and the second one of two crashes does nothing.
func TestCrashTwice(t *testing.T) {
	d := New()
	write(t, d, 0, 0, "abc")
	d.Crash(nil)
	d.Crash([]int{1})
	d.Start()
	check(t, d, 0, "", "")
	d.Crash([]int{1})
	d.Start()
	check(t, d, 0, "", "")
	write(t, d, 0, 0, "X")
	if got := crashed(d, 0, 1, 0); got != "X" {
		t.Errorf("the sector is not the first one of the list: %q", got)
	}
	if d.Start(); d.Down() || all(d, 0) != "X" {
		t.Error("Start changes a machine that is up")
	}
}

// calls are Write, Sync and Truncate, and calls of them that fail.
func calls(d *Disk) []func() api.Errno {
	return []func() api.Errno{
		func() api.Errno { return d.Write(0, 0, "W") },
		func() api.Errno { return d.Sync(0) },
		func() api.Errno { return d.Truncate(0, 0) },
		func() api.Errno { return d.Write(99, 0, "W") },
		func() api.Errno { return d.Write(0, -1, "W") },
		func() api.Errno { return d.Write(0, 1<<24, "W") },
		func() api.Errno { return d.Write(0, 0, "") },
		func() api.Errno { return d.Sync(-1) },
		func() api.Errno { return d.Truncate(16, 0) },
		func() api.Errno { return d.Truncate(0, 99) },
	}
}

// P3.4: the n-th call crashes, whichever one it is; reads and the other calls do not count.
func TestArmCounts(t *testing.T) {
	for n := 1; n <= 12; n++ {
		for first := range 10 {
			d := New()
			d.Arm(n, nil)
			for i := 1; i <= n; i++ {
				all(d, 0)
				d.Size(0)
				d.Lose(0)
				d.Start()
				d.Down()
				d.Copy()
				l := calls(d)
				e := l[(first+i)%len(l)]()
				if (e == api.ErrDown) != (i == n) || d.Down() != (i == n) {
					t.Errorf("Arm(%d): the call %d of kind %d = %d, Down() = %t", n, i, (first+i)%len(l), e, d.Down())
				}
			}
			d.Start()
			for i := range 20 {
				if e := calls(d)[i%10](); e == api.ErrDown {
					t.Errorf("Arm(%d): another crash", n)
				}
			}
		}
	}
}

// P3.4: a Write is performed before the crash, whose keep tells what survives of it; no other call is.
func TestArmPerforms(t *testing.T) {
	for _, c := range []struct {
		call int
		keep []int
		want string
	}{
		{0, nil, "abc"}, {0, []int{0}, "abc"}, {0, []int{1}, "WXc"}, {1, []int{0}, "abc"}, {1, []int{1}, "aXc"}, {2, []int{0}, "abc"}, {2, []int{1}, "aXc"}, {2, nil, "abc"},
		{3, []int{1}, "aXc"}, {4, []int{1}, "aXc"}, {5, []int{1}, "aXc"}, {5, nil, "abc"}, {6, []int{1}, "aXc"}, {7, []int{1}, "aXc"}, {8, []int{0, 1}, "abc"}, {9, []int{1}, "aXc"},
	} {
		d := New()
		write(t, d, 0, 0, "abc")
		sync(t, d, 0)
		write(t, d, 0, 1, "X")
		d.Arm(1, c.keep)
		if e := calls(d)[c.call](); e != api.ErrDown || !d.Down() {
			t.Errorf("call %d = %d, Down() = %t", c.call, e, d.Down())
		}
		if d.Start(); all(d, 0) != c.want {
			t.Errorf("call %d, %v: %q, want %q", c.call, c.keep, all(d, 0), c.want)
		}
	}
}

// P3.4: the Write that is performed can be torn.
func TestArmTears(t *testing.T) {
	d := New()
	d.Arm(1, []int{0, 1})
	if e := d.Write(0, 0, strings.Repeat("x", 130)); e != api.ErrDown {
		t.Errorf("Write = %d", e)
	}
	if d.Start(); all(d, 0) != strings.Repeat("\x00", 64)+strings.Repeat("x", 64) {
		t.Errorf("%q", all(d, 0))
	}
}

// P3.4: a sync that is not performed uses no lost sync up; one that is lost counts.
func TestArmAndLose(t *testing.T) {
	d := New()
	d.Lose(3)
	d.Arm(2, nil)
	if a, b := d.Sync(0), d.Sync(0); a != api.ErrLost || b != api.ErrDown {
		t.Errorf("Sync = %d, %d", a, b)
	}
	d.Start()
	if a, b, c := d.Sync(0), d.Sync(0), d.Sync(0); a != api.ErrLost || b != api.ErrLost || c != api.OK {
		t.Errorf("Sync = %d, %d, %d", a, b, c)
	}
}

// P3.4: numbers less than 1 schedule nothing; the last call of Arm counts; a crash cancels it.
func TestArmReplacesAndCancels(t *testing.T) {
	cases := []struct {
		name string
		set  func(d *Disk)
		want int // the call that crashes; 0: none
	}{
		{"0", func(d *Disk) { d.Arm(0, []int{1}) }, 0},
		{"-1", func(d *Disk) { d.Arm(-1, []int{1}) }, 0},
		{"the least", func(d *Disk) { d.Arm(math.MinInt, nil) }, 0},
		{"the greatest", func(d *Disk) { d.Arm(math.MaxInt, nil) }, 0},
		{"a later one", func(d *Disk) { d.Arm(2, nil); d.Arm(5, nil) }, 5},
		{"an earlier one", func(d *Disk) { d.Arm(5, nil); d.Arm(2, nil) }, 2},
		{"none any more", func(d *Disk) { d.Arm(2, nil); d.Arm(0, nil) }, 0},
		{"none any more, by a negative number", func(d *Disk) { d.Arm(2, nil); d.Arm(-7, nil) }, 0},
		{"a crash", func(d *Disk) { d.Arm(2, nil); d.Crash(nil); d.Start() }, 0},
		{"a crash of a machine that is down", func(d *Disk) { d.Crash(nil); d.Arm(2, nil); d.Crash(nil); d.Start() }, 2},
		{"set while down", func(d *Disk) { d.Crash(nil); d.Arm(2, nil); d.Start() }, 2},
		{"calls while down", func(d *Disk) {
			d.Crash(nil)
			d.Arm(2, nil)
			d.Sync(0)
			d.Sync(0)
			d.Write(0, 0, "a")
			d.Start()
		}, 2},
		{"after some calls", func(d *Disk) { d.Arm(2, nil); d.Sync(0); d.Arm(2, nil) }, 2},
	}
	for _, c := range cases {
		d := New()
		c.set(d)
		got := 0
		for i := 1; i <= 9 && got == 0; i++ {
			if d.Sync(0) == api.ErrDown {
				got = i
			}
		}
		if got != c.want {
			t.Errorf("%s: the crash comes with the call %d, want %d", c.name, got, c.want)
		}
	}
}

// P3.4: Arm keeps no part of its argument, and the last one counts.
func TestArmCopiesKeep(t *testing.T) {
	d := New()
	keep := []int{1, 0, 7}
	d.Arm(2, []int{0, 0})
	d.Arm(1, keep[:2])
	c := d.Copy()
	keep[0], keep[1] = 0, 1
	for _, d := range []*Disk{d, c} {
		if e := d.Write(0, 0, strings.Repeat("x", 128)); e != api.ErrDown {
			t.Errorf("Write = %d", e)
		}
		if d.Start(); all(d, 0) != strings.Repeat("x", 64) {
			t.Errorf("%q", all(d, 0))
		}
	}
	if !slices.Equal(keep, []int{0, 1, 7}) {
		t.Errorf("keep is %v", keep)
	}
}

// The examples of the chapter.
func TestExamples(t *testing.T) {
	for _, keep := range [][]int{{1}, {0}, nil} {
		d := New()
		write(t, d, 0, 0, "abc")
		sync(t, d, 0)
		write(t, d, 0, 1, "XY")
		want := "abc"
		if len(keep) > 0 && keep[0] == 1 {
			want = "aXY"
		}
		if got := crashed(d, 0, keep...); got != want {
			t.Errorf("Crash(%v): %q", keep, got)
		}
	}
	d := New()
	write(t, d, 0, 62, "abcd")
	if got := crashed(d, 0, 0, 1); got != strings.Repeat("\x00", 64)+"cd" {
		t.Errorf("%q", got)
	}
}
