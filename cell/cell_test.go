package cell

import (
	"math"
	"slices"
	"strings"
	"testing"

	"rehearsal/api"
	"rehearsal/disk"
)

// bytesOf returns a whole file.
func bytesOf(d *disk.Disk, f int) string {
	s, _ := d.Read(f, 0, math.MaxInt)
	return s
}

// diskWith returns a disk whose file f has these bytes, which are durable.
func diskWith(t *testing.T, f int, s string) *disk.Disk {
	t.Helper()
	d := disk.New()
	if d.Write(f, 0, s) != api.OK || d.Sync(f) != api.OK {
		t.Fatal("the disk does not work")
	}
	return d
}

// image returns a file with these bytes at these offsets.
func image(parts map[int]string) string {
	var b []byte
	for at, s := range parts {
		if grown := at + len(s) - len(b); grown > 0 && s != "" {
			b = append(b, make([]byte, grown)...)
		}
		copy(b[min(at, len(b)):], s)
	}
	return string(b)
}

// open opens a cell, which has to succeed.
func open(t *testing.T, d *disk.Disk, f int) *Cell {
	t.Helper()
	c, e := Open(d, f)
	if c == nil || e != api.OK {
		t.Fatalf("Open(%d) = %v, %d", f, c, e)
	}
	return c
}

// set sets a value, which has to succeed.
func set(t *testing.T, c *Cell, s string) {
	t.Helper()
	if e := c.Set(s); e != api.OK {
		t.Fatalf("Set of %d bytes = %d", len(s), e)
	}
}

// has checks the value of a cell.
func has(t *testing.T, c *Cell, s string, ok bool) {
	t.Helper()
	if got, gotOk := c.Get(); got != s || gotOk != ok {
		t.Errorf("Get() = %.40q (%d bytes), %t, want %.40q (%d bytes), %t", got, len(got), gotOk, s, len(s), ok)
	}
}

// The examples of the chapter.
func TestExamples(t *testing.T) {
	d := disk.New()
	c := open(t, d, 0)
	has(t, c, "", false)
	set(t, c, "a")
	set(t, c, "bc")
	has(t, c, "bc", true)
	want := image(map[int]string{0: "\x02\x02\x00\x00\x00", 64: "a", 131072: "bc"})
	if got := bytesOf(d, 0); got != want {
		t.Errorf("the file has %d bytes, want %d, or other ones", len(got), len(want))
	}
}

// P4.1: the error of the disk is returned, and its order of errors is that of the disk.
func TestOpenErrorOfDisk(t *testing.T) {
	d := disk.New()
	for _, f := range []int{-1, 16, math.MaxInt, math.MinInt} {
		if c, e := Open(d, f); c != nil || e != api.ErrArg {
			t.Errorf("Open(%d) = %v, %d", f, c, e)
		}
	}
	d.Crash(nil)
	for _, f := range []int{0, 15, -1, 16} {
		if c, e := Open(d, f); c != nil || e != api.ErrDown {
			t.Errorf("Open(%d) of a machine that is down = %v, %d", f, c, e)
		}
	}
}

// P4.1: a file that is empty, or begins with a byte 0, has no value, whatever else is in it.
func TestOpenWithoutValue(t *testing.T) {
	for _, s := range []string{"", "\x00", "\x00\x01", "\x00\xff\xff\xff\xff", "\x00\x01\x00\x00\x00", strings.Repeat("\x00", 200000),
		image(map[int]string{0: "\x00\x01", 64: "a", 131072: "b"})} {
		for _, f := range []int{0, 7, 15} {
			has(t, open(t, diskWith(t, f, s), f), "", false)
		}
	}
}

// P4.1: what has a header that no Set writes is malformed, and so is a file that ends before the value.
func TestOpenMalformed(t *testing.T) {
	big := strings.Repeat("x", Max+1)
	for i, s := range []string{
		"\x01", "\x01\x00", "\x02\x00\x00", "\x01\x00\x00\x00", "\x03", "\xff\xff",
		"\x03\x00\x00\x00\x00", "\xff\x00\x00\x00\x00", "1\x00\x00\x00\x00",
		image(map[int]string{0: "\x03\x01\x00\x00\x00", 64: "a", 131072: "b"}),
		"\x01\x01\x00\x00\x00",
		image(map[int]string{0: "\x01\x02\x00\x00\x00", 64: "a"}),
		image(map[int]string{0: "\x02\x01\x00\x00\x00", 131071: "a"}),
		image(map[int]string{0: "\x02\x03\x00\x00\x00", 131072: "ab"}),
		image(map[int]string{0: "\x01\x00\x00\x01\x00", 64: big[:Max-1]}),
		image(map[int]string{0: "\x01\x01\x00\x01\x00", 64: big}),
		image(map[int]string{0: "\x02\x01\x00\x01\x00", 131072: big}),
		image(map[int]string{0: "\x01\x00\x00\x00\x01", 64: big}),
		image(map[int]string{0: "\x01\x00\x00\x00\x80", 64: big}),
		image(map[int]string{0: "\x02\xff\xff\xff\xff", 131072: big}),
		image(map[int]string{0: "\x01\x00\x00\x02\x00", 64: big + big}),
	} {
		if c, e := Open(diskWith(t, 1, s), 1); c != nil || e != api.ErrForm {
			t.Errorf("%d: Open = %v, %d", i, c, e)
		}
	}
}

// P4.1: the value is that of the slot that the header names, with the length that stands there.
func TestOpenWithValue(t *testing.T) {
	big := strings.Repeat("x", Max)
	for i, c := range []struct{ file, want string }{
		{"\x01\x00\x00\x00\x00", ""},
		{"\x02\x00\x00\x00\x00", ""},
		{"\x02\x00\x00\x00\x00rest", ""},
		{image(map[int]string{0: "\x01\x00\x00\x00\x00", 64: "ab"}), ""},
		{image(map[int]string{0: "\x01\x02\x00\x00\x00", 64: "ab"}), "ab"},
		{image(map[int]string{0: "\x01\x01\x00\x00\x00", 5: "xyz", 64: "abc"}), "a"},
		{image(map[int]string{0: "\x01\x03\x00\x00\x00", 64: "a\x00\xff", 131072: "other"}), "a\x00\xff"},
		{image(map[int]string{0: "\x02\x05\x00\x00\x00", 64: "a", 131072: "other"}), "other"},
		{image(map[int]string{0: "\x01\x02\x01\x00\x00", 64: big[:258]}), big[:258]},
		{image(map[int]string{0: "\x01\x00\x00\x01\x00", 64: big}), big},
		{image(map[int]string{0: "\x02\x00\x00\x01\x00", 131072: big + "y"}), big},
		{image(map[int]string{0: "\x02\xff\xff\x00\x00", 131072: big}), big[1:]},
	} {
		d := diskWith(t, i, c.file)
		has(t, open(t, d, i), c.want, true)
		if bytesOf(d, i) != c.file {
			t.Errorf("%d: Open has changed the file", i)
		}
	}
}

// P4.1: a cell that was opened is not sure: its next Set begins with a Sync, if there is a header.
func TestOpenIsNotSure(t *testing.T) {
	for _, c := range []struct{ before, after string }{
		{"", image(map[int]string{64: "new"})},
		{"\x00", image(map[int]string{64: "new"})},
		{"\x01\x00\x00\x00\x00", "\x01\x00\x00\x00\x00"},
		{image(map[int]string{0: "\x01\x01\x00\x00\x00", 64: "a"}), image(map[int]string{0: "\x01\x01\x00\x00\x00", 64: "a"})},
	} {
		d := diskWith(t, 0, c.before)
		cell := open(t, d, 0)
		d.Lose(1)
		if e := cell.Set("new"); e != api.ErrLost || bytesOf(d, 0) != c.after {
			t.Errorf("%q: Set = %d, the file is then %q", c.before, e, bytesOf(d, 0))
		}
		set(t, cell, "new")
		has(t, cell, "new", true)
	}
}

// P4.2: Get returns what is there, an empty value too.
func TestGet(t *testing.T) {
	d := disk.New()
	c := open(t, d, 3)
	has(t, c, "", false)
	for _, s := range []string{"", "a", "", "a\x00b", "\x00", strings.Repeat("long", 1000), strings.Repeat("m", Max), ""} {
		set(t, c, s)
		has(t, c, s, true)
		has(t, c, s, true)
		has(t, open(t, d, 3), s, true)
	}
}

// P4.3: a value that is too long changes nothing, whatever else there is.
func TestSetTooLong(t *testing.T) {
	d := disk.New()
	c := open(t, d, 0)
	long := strings.Repeat("x", Max+1)
	if e := c.Set(long); e != api.ErrFull || d.Size(0) != 0 {
		t.Errorf("Set = %d, the file has %d bytes", e, d.Size(0))
	}
	has(t, c, "", false)
	set(t, c, long[1:])
	has(t, c, long[1:], true)
	set(t, c, "a")
	before := bytesOf(d, 0)
	d.Lose(1)
	if e := c.Set(long + long); e != api.ErrFull || bytesOf(d, 0) != before {
		t.Errorf("Set = %d", e)
	}
	has(t, c, "a", true)
	if e := d.Sync(0); e != api.ErrLost {
		t.Error("Set of a value that is too long has synced")
	}
	d.Crash([]int{1})
	if e := c.Set(long); e != api.ErrFull {
		t.Errorf("Set = %d on a machine that is down", e)
	}
	if e := c.Set("b"); e != api.ErrDown {
		t.Errorf("Set = %d on a machine that is down", e)
	}
}

// P4.3: the slots take turns, the first one being 1, and a longer value that was there before leaves its end.
func TestSetSlots(t *testing.T) {
	d := disk.New()
	c := open(t, d, 2)
	for _, s := range []struct {
		value string
		want  map[int]string
	}{
		{"first", map[int]string{0: "\x01\x05\x00\x00\x00", 64: "first"}},
		{"second", map[int]string{0: "\x02\x06\x00\x00\x00", 64: "first", 131072: "second"}},
		{"3", map[int]string{0: "\x01\x01\x00\x00\x00", 64: "3irst", 131072: "second"}},
		{"", map[int]string{0: "\x02\x00\x00\x00\x00", 64: "3irst", 131072: "second"}},
		{strings.Repeat("z", 0x102), map[int]string{0: "\x01\x02\x01\x00\x00", 64: strings.Repeat("z", 0x102), 131072: "second"}},
		{strings.Repeat("y", Max), map[int]string{0: "\x02\x00\x00\x01\x00", 64: strings.Repeat("z", 0x102), 131072: strings.Repeat("y", Max)}},
	} {
		set(t, c, s.value)
		if bytesOf(d, 2) != image(s.want) {
			t.Fatalf("after Set(%.20q) the file is another one", s.value)
		}
	}
	c = open(t, d, 2)
	set(t, c, "x")
	if s, _ := d.Read(2, 0, 65); s[0] != 1 || s[64] != 'x' {
		t.Error("a cell that was opened does not take the other slot")
	}
}

// calls returns how many calls of the disk a Set makes that Arm counts.
func calls(t *testing.T, prepare func() (*disk.Disk, *Cell), s string) int {
	t.Helper()
	for n := 1; ; n++ {
		d, c := prepare()
		d.Arm(n, nil)
		if e := c.Set(s); e == api.OK {
			return n - 1
		} else if e != api.ErrDown || !d.Down() {
			t.Fatalf("Arm(%d): Set = %d", n, e)
		}
	}
}

// P4.3: Set syncs before it writes only if it has to.
func TestSetCalls(t *testing.T) {
	fresh := func() (*disk.Disk, *Cell) {
		d := disk.New()
		return d, open(t, d, 0)
	}
	sure := func() (*disk.Disk, *Cell) {
		d, c := fresh()
		set(t, c, "a")
		return d, c
	}
	opened := func() (*disk.Disk, *Cell) {
		d, _ := sure()
		return d, open(t, d, 0)
	}
	for _, c := range []struct {
		name    string
		prepare func() (*disk.Disk, *Cell)
		want    int
	}{{"fresh", fresh, 4}, {"sure", sure, 4}, {"opened", opened, 5}} {
		for _, s := range []string{"", "c", strings.Repeat("c", Max)} {
			if got := calls(t, c.prepare, s); got != c.want {
				t.Errorf("%s: Set makes %d calls, want %d", c.name, got, c.want)
			}
		}
	}
}

// P4.3: a Set that fails has its value if its header was written, or else the old one.
func TestSetFails(t *testing.T) {
	for n, want := range map[int]string{1: "a", 2: "a", 3: "a", 4: "b"} {
		d := disk.New()
		c := open(t, d, 0)
		set(t, c, "a")
		d.Arm(n, nil)
		if e := c.Set("b"); e != api.ErrDown {
			t.Errorf("a crash at %d: Set = %d", n, e)
		}
		has(t, c, want, true)
	}
}

// P4.3: a header is not written before the value is durable.
func TestSetLost(t *testing.T) {
	d := disk.New()
	c := open(t, d, 0)
	d.Lose(1) // step 3
	if e := c.Set("a"); e != api.ErrLost {
		t.Fatal(e)
	}
	has(t, c, "", false)
	set(t, c, "b")
	has(t, c, "b", true)
	before, _ := d.Read(0, 0, 5)
	d.Lose(1)
	if e := c.Set("c"); e != api.ErrLost {
		t.Fatal(e)
	}
	has(t, c, "b", true)
	if now, _ := d.Read(0, 0, 5); now != before {
		t.Error("the header was written though the value is not durable")
	}
}

// P4.1, P4.3: whatever the bytes of a file are, Open tells what they say, and Set works on what it accepts.
func FuzzOpen(f *testing.F) {
	for _, s := range []string{"", "\x00", "\x01\x00\x00\x00\x00", "\x02\x00\x00\x00\x00", "\x01\x01\x00\x00\x00", "\x01\x00\x01\x00\x00" + strings.Repeat("x", 400)} {
		f.Add(s)
	}
	f.Fuzz(func(t *testing.T, s string) {
		d := disk.New()
		d.Write(0, 0, s)
		want, ok, e := meaning(s)
		c, got := Open(d, 0)
		if got != e || (c == nil) != (e != api.OK) {
			t.Fatalf("Open = %v, %d, want %d", c, got, e)
		}
		if c == nil {
			return
		}
		has(t, c, want, ok)
		set(t, c, "new")
		has(t, open(t, d, 0), "new", true)
	})
}

// meaning returns the value that the bytes of a file have, in the order of the chapter.
func meaning(s string) (string, bool, api.Errno) {
	if s == "" || s[0] == 0 {
		return "", false, api.OK
	}
	if len(s) < 5 || s[0] != 1 && s[0] != 2 {
		return "", false, api.ErrForm
	}
	size, at := 0, 64
	for i := range 4 {
		size += int(s[1+i]) << (8 * i)
	}
	if s[0] == 2 {
		at = 131072
	}
	if size > Max || size > 0 && at+size > len(s) {
		return "", false, api.ErrForm
	}
	if size == 0 {
		return "", true, api.OK
	}
	return s[at : at+size], true, api.OK
}

// keeps are what crashes keep: nothing, everything, and some of it.
var keeps = [][]int{nil, {1}, {1, 0}, {0, 1}, {1, 0, 0}, {0, 0, 1}, {1, 1, 0, 0, 1, 0, 1}}

// P4.5: after a Set that returned OK, a crash changes nothing.
func TestCrashAfterSet(t *testing.T) {
	for _, keep := range keeps {
		d := disk.New()
		c := open(t, d, 0)
		for _, s := range []string{"a", "", "bcd", strings.Repeat("x", 1000), strings.Repeat("y", Max), "z"} {
			set(t, c, s)
			before := bytesOf(d, 0)
			d.Crash(keep)
			d.Start()
			if bytesOf(d, 0) != before {
				t.Fatalf("a crash that keeps %v has changed the file", keep)
			}
			c = open(t, d, 0)
			has(t, c, s, true)
		}
	}
}

// P4.4: wherever the crash is, and whatever it keeps, the value is the old one or the new one.
func TestCrashInSet(t *testing.T) {
	for _, keep := range keeps {
		for _, s := range []string{"", "new", strings.Repeat("n", 300)} {
			for n := 1; n <= 5; n++ {
				for old := range 4 {
					crashInSet(t, old, s, n, keep)
				}
			}
		}
	}
}

// crashInSet sets values, then s, with a crash at the n-th call.
func crashInSet(t *testing.T, old int, s string, n int, keep []int) {
	t.Helper()
	values := []string{"first", strings.Repeat("second", 50), "3"}[:min(old, 3)]
	d := disk.New()
	c := open(t, d, 0)
	for _, v := range values {
		set(t, c, v)
	}
	before, had := c.Get()
	if old == 3 {
		c = open(t, d, 0)
	}
	d.Arm(n, keep)
	e := c.Set(s)
	d.Arm(0, nil)
	d.Start()
	c, opened := Open(d, 0)
	if opened != api.OK {
		t.Fatalf("%d values, then a crash at %d that keeps %v: Open = %d", old, n, keep, opened)
	}
	now, ok := c.Get()
	isOld := now == before && ok == had
	isNew := now == s && ok
	if e == api.OK && !isNew || !isOld && !isNew {
		t.Errorf("%d values, then a crash at %d that keeps %v: Set = %d, Get() = %.20q, %t", old, n, keep, e, now, ok)
	}
	set(t, c, "after")
	has(t, open(t, d, 0), "after", true)
}

// P4.3: results and values are independent of other cells on the same disk.
func TestCellsOfOneDisk(t *testing.T) {
	d := disk.New()
	var cells []*Cell
	for f := range 16 {
		cells = append(cells, open(t, d, f))
	}
	for round := range 3 {
		for f, c := range cells {
			set(t, c, strings.Repeat(string(rune('a'+f)), round+f))
		}
		for f, c := range slices.Backward(cells) {
			has(t, c, strings.Repeat(string(rune('a'+f)), round+f), true)
			has(t, open(t, d, f), strings.Repeat(string(rune('a'+f)), round+f), true)
		}
	}
}
