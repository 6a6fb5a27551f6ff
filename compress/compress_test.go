package compress

import (
	"math/rand"
	"strings"
	"sync"
	"testing"

	"rehearsal/api"
)

// times returns n times the string s.
func times(s string, n int) string { return strings.Repeat(s, n) }

// mixed returns n bytes, of which no two neighbors are equal.
func mixed(n int) string { return times("0123456789", 7)[:n] }

// packs checks that packed is the packed form of a page, and that it is unpacked.
func packs(t *testing.T, page, packed string) {
	t.Helper()
	if got, ok := Pack(page); got != packed || !ok {
		t.Fatalf("Pack(%q) = %q, %v, not %q", page, got, ok, packed)
	}
	if got, ok := Unpack(packed); got != page || !ok {
		t.Fatalf("Unpack(%q) = %q, %v, not %q", packed, got, ok, page)
	}
}

// packsNot checks that a string has no packed form.
func packsNot(t *testing.T, page string) {
	t.Helper()
	if got, ok := Pack(page); got != "" || ok {
		t.Fatalf("Pack(%q) = %q, %v", page, got, ok)
	}
}

// unpacksNot checks that a string is not a packed form.
func unpacksNot(t *testing.T, s string) {
	t.Helper()
	if got, ok := Unpack(s); got != "" || ok {
		t.Fatalf("Unpack(%q) = %q, %v", s, got, ok)
	}
}

// The examples of the chapter, and the constant.
func TestExamples(t *testing.T) {
	if Most != 47 {
		t.Fatalf("Most = %d", Most)
	}
	packs(t, times("\x00", 64), "\xc0\x00")
	packs(t, "ab"+times("c", 62), "\x02ab\xbec")
	packsNot(t, times("aabb", 16))
}

// P8.1: the pieces of pages: runs at the beginning, in the middle and at the end, two equal bytes, which are no run, and
// runs that follow one another.
func TestPack(t *testing.T) {
	packs(t, times("\xff", 64), "\xc0\xff")
	packs(t, "a"+times("b", 63), "\x01a\xbfb")
	packs(t, times("b", 63)+"a", "\xbfb\x01a")
	packs(t, "aa"+times("b", 62), "\x02aa\xbeb")
	packs(t, times("b", 62)+"aa", "\xbeb\x02aa")
	packs(t, "aaa"+times("b", 61), "\x83a\xbdb")
	packs(t, times("b", 61)+"aaa", "\xbdb\x83a")
	packs(t, "aaaa"+times("b", 60), "\x84a\xbcb")
	packs(t, times("a", 30)+"b"+times("a", 33), "\x9ea\x01b\xa1a")
	packs(t, times("a", 30)+"bb"+times("a", 32), "\x9ea\x02bb\xa0a")
	packs(t, times("a", 30)+"bbb"+times("a", 31), "\x9ea\x83b\x9fa")
	packs(t, "xaabbaay"+times("\x00", 56), "\x08xaabbaay\xb8\x00")
	packs(t, "\x00\x80\xff"+times("\x80", 61), "\x03\x00\x80\xff\xbd\x80")
	packs(t, times("aaabbb", 10)+"aaaa", times("\x83a\x83b", 10)+"\x84a")
	packs(t, "aab"+times("aaab", 5)+times("a", 41), "\x03aab"+times("\x83a\x01b", 5)+"\xa9a")
}

// P8.1: packed forms of at most Most bytes, and of more.
func TestMost(t *testing.T) {
	for n := 1; n <= 61; n++ {
		begin, end := times("z", 64-n)+mixed(n), mixed(n)+times("z", 64-n)
		run, other := string([]byte{byte(192 - n), 'z'}), string([]byte{byte(n)})+mixed(n)
		if n <= 44 { // then the packed form has at most 1 + 44 + 2 bytes
			packs(t, begin, run+other)
			packs(t, end, other+run)
		} else {
			packsNot(t, begin)
			packsNot(t, end)
			unpacksNot(t, run+other)
			unpacksNot(t, other+run)
		}
	}
	short, packed := times("aaax", 10), times("\x83a\x01x", 10)
	packs(t, short+"aaax"+times("b", 20), packed+"\x83a\x01x\x94b")   // 46 bytes
	packs(t, short+"aaaxy"+times("b", 19), packed+"\x83a\x02xy\x93b") // 47 bytes
	packsNot(t, short+"aaaxyz"+times("b", 18))                        // 48 bytes
	packsNot(t, short+"aaaxaaax"+times("b", 16))                      // 50 bytes
}

// P8.1: strings that are not pages.
func TestPackNoPage(t *testing.T) {
	for n := range 200 {
		if n != api.PageSize {
			packsNot(t, times("\x00", n))
			packsNot(t, times("a", n))
			packsNot(t, times("aaab", n))
		}
	}
	packsNot(t, times("\x00", 1<<20))
}

// P8.2, P8.4: strings that could be read as the pieces of a page, but are not its packed form.
func TestUnpackOther(t *testing.T) {
	b61, b62, b63 := "\xbdb", "\xbeb", "\xbfb"
	others := map[string]string{
		"a run in two parts":              "\xa0a\xa0a",
		"a piece in two parts":            "\x01a\x01c" + b62,
		"a run that begins too late":      "\x01b" + b63,
		"a run that ends too early":       b63 + "\x01b",
		"a run within another piece":      "\x03aaa" + b61,
		"a run at the end of a piece":     "\x04caaa\xbcb",
		"a run of two bytes":              "\x82a" + b62,
		"a run of one byte":               "\x81a" + b63,
		"a run of no byte":                "\x80a\xc0b",
		"a run of no byte, at the end":    "\xc0b\x80b",
		"a piece of no byte":              "\x00\xc0b",
		"a piece of no byte, at the end":  "\xc0b\x00",
		"too few bytes":                   b63,
		"too many bytes":                  "\xc1b",
		"a page, and another byte":        "\xc0b\x01a",
		"a page, and a part of a run":     "\xc0b\x83",
		"a page, and a part of a piece":   "\xc0b\x01",
		"two pages":                       "\xc0a\xc0b",
		"a run without its byte":          "\xc0",
		"a piece without its last byte":   b63 + "\x02a",
		"a piece that has too many bytes": "\x03a" + b63,
		"a page that is not packed":       mixed(64),
		"its number, and such a page":     "\x40" + mixed(64),
	}
	for what, s := range others {
		if got, ok := Unpack(s); got != "" || ok {
			t.Errorf("%s: Unpack(%q) = %q, %v", what, s, got, ok)
		}
	}
}

// P8.2: strings that are not packed forms for their length.
func TestUnpackLength(t *testing.T) {
	for _, c := range []string{"\x00", "\x01", "\x83", "\xc0", "\xff", "a", "\x83a", "\x01a\x83b"} {
		for n := range 100 {
			if s := times(c, n); s != "\xc0\xc0" {
				unpacksNot(t, s)
			}
		}
	}
	unpacksNot(t, times("\xff", 1<<20))
	unpacksNot(t, times("\x00", 1<<20))
}

// P8.2, P8.4: all strings of at most two bytes, and those of four bytes that consist of two pieces with the bytes a and b.
func TestUnpackAll(t *testing.T) {
	unpacksNot(t, "")
	for n := range 256 {
		unpacksNot(t, string([]byte{byte(n)}))
		for m := range 256 {
			two := string([]byte{byte(n), byte(m)})
			if page, ok := Unpack(two); ok != (n == 192) || ok && page != times(two[1:], 64) {
				t.Fatalf("Unpack(%q) = %q, %v", two, page, ok)
			}
			unpacksNot(t, string([]byte{byte(n), 'a', byte(m), 'a'}))
			right := n+m == 128+192 && n >= 131 && m >= 131 || n == 1 && m == 191 || n == 191 && m == 1
			if page, ok := Unpack(string([]byte{byte(n), 'a', byte(m), 'b'})); ok != right || ok && page != times("a", n%128)+times("b", m%128) {
				t.Fatalf("%d, a, %d, b: %q, %v", n, m, page, ok)
			}
		}
	}
}

// P8.3: the results are the same whatever was called before, and at the same time.
func TestPure(t *testing.T) {
	pages := []string{times("a", 64), "a" + times("b", 63), mixed(64), "", times("aaab", 11) + times("c", 20), times("x", 65)}
	want := map[string]string{}
	for _, p := range pages {
		want[p], _ = Pack(p)
	}
	var all sync.WaitGroup
	for seed := range 8 {
		all.Go(func() {
			r := rand.New(rand.NewSource(int64(seed)))
			for range 500 {
				p := pages[r.Intn(len(pages))]
				packed, ok := Pack(p)
				page, back := Unpack(packed)
				if packed != want[p] || ok != (packed != "") || back != ok || back && page != p {
					t.Errorf("Pack(%q) = %q, %v, not %q; unpacked: %q, %v", p, packed, ok, want[p], page, back)
				}
			}
		})
	}
	all.Wait()
}

// P8.5: a page of k runs has a packed form of 2 k bytes.
func TestRunsOnly(t *testing.T) {
	for k := 1; k <= 21; k++ {
		page, packed := "", ""
		for i := range k {
			n := 64 / k
			if i == 0 {
				n += 64 % k
			}
			page += times(string([]byte{byte(i)}), n)
			packed += string([]byte{byte(128 + n), byte(i)})
		}
		if len(packed) != 2*k {
			t.Fatalf("%d runs are %d bytes", k, len(packed))
		}
		packs(t, page, packed)
	}
}

// P8.5: pages without three equal neighbors.
func TestNoRuns(t *testing.T) {
	packsNot(t, mixed(64))
	packsNot(t, times("ab", 32))
	packsNot(t, times("aab", 21)+"a")
	packsNot(t, times("a\x00\x00", 21)+"a")
	r := rand.New(rand.NewSource(1))
	for range 2000 {
		packsNot(t, withoutRuns(r))
	}
}

// withoutRuns returns a random page in which no three neighbors are equal.
func withoutRuns(r *rand.Rand) string {
	var p []byte
	for len(p) < 64 {
		b, n := byte(r.Intn(3)), len(p)
		if n < 2 || p[n-1] != b || p[n-2] != b {
			p = append(p, b)
		}
	}
	return string(p)
}
