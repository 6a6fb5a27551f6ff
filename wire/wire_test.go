package wire

import (
	"math"
	"slices"
	"strings"
	"testing"
)

var someInts = []int{0, 1, 7, 9, 10, 11, 99, 100, 300, 1000000, math.MaxInt / 10, math.MaxInt - 1, math.MaxInt,
	-1, -7, -9, -10, -300, math.MinInt / 10, math.MinInt + 1, math.MinInt}

var someTexts = []string{"", "a", ",", ":", ";", "-", "[", "]", "0", "0:,", "1:a,", "0[]", "1;", "a,b", "a\x00b", "\xff\xfe", "é",
	"2[1;-1;]", strings.Repeat("x", 9), strings.Repeat("y", 10), strings.Repeat(",", 1000)}

// P1.1: Num encodes a number, and refuses negative ints.
func TestNum(t *testing.T) {
	cases := []struct {
		n    int
		want string
	}{
		{0, "0;"}, {1, "1;"}, {10, "10;"}, {300, "300;"}, {math.MaxInt, "9223372036854775807;"},
		{-1, ""}, {-300, ""}, {math.MinInt, ""},
	}
	for _, c := range cases {
		if got := Num(c.n); got != c.want {
			t.Errorf("Num(%d) = %q, want %q", c.n, got, c.want)
		}
	}
}

// P1.1: Int encodes every int.
func TestInt(t *testing.T) {
	cases := []struct {
		n    int
		want string
	}{
		{0, "0;"}, {7, "7;"}, {-7, "-7;"}, {-10, "-10;"}, {-1, "-1;"},
		{math.MaxInt, "9223372036854775807;"}, {math.MinInt, "-9223372036854775808;"},
	}
	for _, c := range cases {
		if got := Int(c.n); got != c.want {
			t.Errorf("Int(%d) = %q, want %q", c.n, got, c.want)
		}
	}
}

// P1.1: Text counts bytes, and writes them as they are.
func TestText(t *testing.T) {
	cases := [][2]string{
		{"", "0:,"}, {"a,b", "3:a,b,"}, {"é", "2:\xc3\xa9,"}, {"\x00\xff", "2:\x00\xff,"}, {"1:a,", "4:1:a,,"},
		{strings.Repeat("x", 12), "12:xxxxxxxxxxxx,"},
	}
	for _, c := range cases {
		if got := Text(c[0]); got != c[1] {
			t.Errorf("Text(%q) = %q, want %q", c[0], got, c[1])
		}
	}
}

// P1.1: Nums and Texts encode lists, in order.
func TestLists(t *testing.T) {
	cases := [][2]string{
		{Nums(nil), "0[]"}, {Nums([]int{}), "0[]"}, {Nums([]int{1, -1}), "2[1;-1;]"},
		{Nums([]int{math.MinInt, 0, math.MaxInt}), "3[-9223372036854775808;0;9223372036854775807;]"},
		{Nums(make([]int, 11)), "11[" + strings.Repeat("0;", 11) + "]"},
		{Texts(nil), "0[]"}, {Texts([]string{}), "0[]"}, {Texts([]string{""}), "1[0:,]"},
		{Texts([]string{"b", "a", "]"}), "3[1:b,1:a,1:],]"},
	}
	for i, c := range cases {
		if c[0] != c[1] {
			t.Errorf("case %d: %q, want %q", i, c[0], c[1])
		}
	}
}

// P1.2: each read returns the value at the position, and moves the reader after it.
func TestReadInTurn(t *testing.T) {
	s := "0;-12;3:a,b,2[1;-1;]0[]2[0:,1:x,]300;tail"
	r := Open(s)
	steps := []struct {
		encoding string
		read     func() bool
	}{
		{"0;", func() bool { return r.Num() == 0 }},
		{"-12;", func() bool { return r.Int() == -12 }},
		{"3:a,b,", func() bool { return r.Text() == "a,b" }},
		{"2[1;-1;]", func() bool { return slices.Equal(r.Nums(), []int{1, -1}) }},
		{"0[]", func() bool { return len(r.Texts()) == 0 }},
		{"2[0:,1:x,]", func() bool { return slices.Equal(r.Texts(), []string{"", "x"}) }},
		{"300;", func() bool { return r.Int() == 300 }},
		{"tail", func() bool { return r.Rest() == "tail" }},
		{"", func() bool { return r.Rest() == "" }},
	}
	left := len(s)
	for _, step := range steps {
		left -= len(step.encoding)
		if !step.read() {
			t.Errorf("%q was not read", step.encoding)
		}
		if r.Left() != left || r.Done() != (left == 0) {
			t.Errorf("after %q: Left() = %d, Done() = %t", step.encoding, r.Left(), r.Done())
		}
	}
}

// P1.2: Rest and Done at the end, and at the beginning, of a reader.
func TestRestAndDone(t *testing.T) {
	if r := Open(""); !r.Done() || r.Left() != 0 || r.Rest() != "" || !r.Done() {
		t.Error("an empty string is done at once")
	}
	if r := Open("1;"); r.Done() || r.Left() != 2 || r.Num() != 1 || !r.Done() {
		t.Error("done after the last value")
	}
	if r := Open("whatever"); r.Rest() != "whatever" || !r.Done() {
		t.Error("Rest needs no encoding")
	}
	if r := Open("1;"); r.Rest() != "1;" || r.Num() != 0 || r.Done() {
		t.Error("a read after Rest fails")
	}
}

// mustFail checks that a reader has failed, and that all its methods say so, again and again.
func mustFail(t *testing.T, name string, r *Reader) {
	t.Helper()
	for range 2 {
		if r.Left() != 0 || r.Done() {
			t.Errorf("%s: Left() = %d, Done() = %t", name, r.Left(), r.Done())
		}
		if r.Num() != 0 || r.Int() != 0 || r.Text() != "" || len(r.Nums()) != 0 || len(r.Texts()) != 0 || r.Rest() != "" {
			t.Errorf("%s: a value after a failure", name)
		}
	}
}

// P1.2: what is no encoding of an int or a number.
func TestInvalidInts(t *testing.T) {
	bad := []string{"", ";", "-", "-;", "--1;", "-0;", "-00;", "-01;", "00;", "01;", "007;", "+1;", " 1;", "1 ;", "1", "-1", "1,", "1:", "1a;",
		"1_0;", "0x1;", "\xb2;", "/;", "9223372036854775808;", "-9223372036854775809;", "18446744073709551616;", "18446744073709551617;",
		"-18446744073709551617;", "99999999999999999999999999;", "0[]", "0:,", "-0:,", "a1;",
		"-0;1;", "01;1;", "-;1;", "x1;1;", "9223372036854775808;1;"}
	for _, s := range bad {
		r := Open(s)
		if n := r.Int(); n != 0 {
			t.Errorf("Int of %q = %d", s, n)
		}
		mustFail(t, "Int of "+s, r)
		r = Open(s)
		if n := r.Num(); n != 0 {
			t.Errorf("Num of %q = %d", s, n)
		}
		mustFail(t, "Num of "+s, r)
	}
	for _, s := range []string{"-1;", "-7;1;", "-9223372036854775808;"} {
		r := Open(s)
		if n := r.Num(); n != 0 {
			t.Errorf("Num of %q = %d", s, n)
		}
		mustFail(t, "Num of "+s, r)
	}
}

// P1.2: what is no encoding of a string.
func TestInvalidTexts(t *testing.T) {
	bad := []string{"", ":", ":,", "0", "0:", "0:;", "0,", "0;,", "1:", "1:a", "1:a;", "1:ab", "1:,", "2:a,", "3:a,", "-1:a,", "-0:,", "00:,", "01:a,",
		"+1:a,", " 1:a,", "1 :a,", "1[a,", "9223372036854775807:,", "9223372036854775808:,", "18446744073709551616:,", "18446744073709551617:a,",
		"99999999999999999999999999:a,"}
	for _, s := range bad {
		r := Open(s)
		if got := r.Text(); got != "" {
			t.Errorf("Text of %q = %q", s, got)
		}
		mustFail(t, "Text of "+s, r)
	}
}

// P1.2: what is no encoding of a list; a list that is broken after some elements has none.
func TestInvalidLists(t *testing.T) {
	bad := []string{"", "0", "[]", "0[", "0]", "00[]", "-0[]", "-1[]", "+0[]", "0[;]", "0[1;]", "0[0:,]", "1[]", "1[", "01[1;]", "01[0:,]",
		"1[1;", "1[1;,", "1[1;2;]", "2[1;]", "2[1;", "3[1;2;]", "1[01;]", "1[-0;]", "2[1;1:a,]", "2[1:a,1;]",
		"1[0:,", "1[0:,;", "1[0:,0:,]", "2[0:,]", "1[1:,]", "1[0[]]", "1(1;)", "0{}",
		"9223372036854775807[1;]", "9223372036854775807[0:,]", "9223372036854775808[]", "18446744073709551616[]", "18446744073709551617[1;]"}
	for _, s := range bad {
		r := Open(s)
		if got := r.Nums(); len(got) != 0 {
			t.Errorf("Nums of %q = %v", s, got)
		}
		mustFail(t, "Nums of "+s, r)
		r = Open(s)
		if got := r.Texts(); len(got) != 0 {
			t.Errorf("Texts of %q = %q", s, got)
		}
		mustFail(t, "Texts of "+s, r)
	}
	for _, s := range []string{"1[1;]", "1[-1;]"} {
		r := Open(s)
		if got := r.Texts(); len(got) != 0 {
			t.Errorf("Texts of %q = %q", s, got)
		}
		mustFail(t, "Texts of "+s, r)
	}
	for _, s := range []string{"1[0:,]", "1[1:1,]"} {
		r := Open(s)
		if got := r.Nums(); len(got) != 0 {
			t.Errorf("Nums of %q = %v", s, got)
		}
		mustFail(t, "Nums of "+s, r)
	}
}

// P1.2: a failure does not undo what was read before it, and nothing is read after it.
func TestFailureInBetween(t *testing.T) {
	r := Open("5;2:ab,x;7;")
	if r.Num() != 5 || r.Text() != "ab" || r.Left() != 4 {
		t.Error("the values before the failure")
	}
	if r.Int() != 0 {
		t.Error("the failure")
	}
	mustFail(t, "x;7;", r)
}

// P1.3: writing changes no argument, not even beyond its length.
func TestArgumentsUnchanged(t *testing.T) {
	numbers := []int{3, -4, 5, 6}
	Nums(numbers[:2])
	if !slices.Equal(numbers, []int{3, -4, 5, 6}) {
		t.Errorf("Nums changed its argument: %v", numbers)
	}
	texts := []string{"a", "b", "c", "d"}
	Texts(texts[:2])
	if !slices.Equal(texts, []string{"a", "b", "c", "d"}) {
		t.Errorf("Texts changed its argument: %q", texts)
	}
}

// P1.3: the slices that a reader returns share no memory, and readers do not disturb one another.
func TestResultsAreFresh(t *testing.T) {
	s := "2[1;2;]2[1;2;]2[1:a,1:b,]2[1:a,1:b,]"
	r, other := Open(s), Open(s)
	n1, n2 := r.Nums(), r.Nums()
	n1[0] = 9
	n1 = append(n1, 9)
	if !slices.Equal(n2, []int{1, 2}) || !slices.Equal(other.Nums(), []int{1, 2}) {
		t.Errorf("Nums shares memory: %v", n2)
	}
	t1, t2 := r.Texts(), r.Texts()
	t1[0] = "z"
	t1 = append(t1, "z")
	if !slices.Equal(t2, []string{"a", "b"}) || len(n1) != 3 || len(t1) != 3 {
		t.Errorf("Texts shares memory: %q", t2)
	}
	if !r.Done() || other.Left() != len(s)-7 {
		t.Error("the readers disturb one another")
	}
}

// P1.4: reading inverts writing, also if something follows.
func TestReadingInvertsWriting(t *testing.T) {
	for _, tail := range []string{"", "0", ";", "1;", ",", "]", "-", "x"} {
		for _, n := range someInts {
			if r := Open(Int(n) + tail); r.Int() != n || r.Rest() != tail {
				t.Errorf("Int %d", n)
			}
			if r := Open(Num(n) + tail); n >= 0 && (r.Num() != n || r.Rest() != tail) {
				t.Errorf("Num %d", n)
			}
		}
		for _, s := range someTexts {
			if r := Open(Text(s) + tail); r.Text() != s || r.Rest() != tail {
				t.Errorf("Text %q", s)
			}
		}
		for i := range len(someInts) + 1 {
			if r := Open(Nums(someInts[:i]) + tail); !slices.Equal(r.Nums(), someInts[:i]) || r.Rest() != tail {
				t.Errorf("Nums %v", someInts[:i])
			}
		}
		for i := range len(someTexts) + 1 {
			if r := Open(Texts(someTexts[:i]) + tail); !slices.Equal(r.Texts(), someTexts[:i]) || r.Rest() != tail {
				t.Errorf("Texts %q", someTexts[:i])
			}
		}
	}
}

// checkCanonical checks that whatever can be read from s has exactly the bytes that were read as its encoding.
func checkCanonical(t *testing.T, s string) {
	t.Helper()
	reads := []func(*Reader) string{
		func(r *Reader) string { return Num(r.Num()) },
		func(r *Reader) string { return Int(r.Int()) },
		func(r *Reader) string { return Text(r.Text()) },
		func(r *Reader) string { return Nums(r.Nums()) },
		func(r *Reader) string { return Texts(r.Texts()) },
	}
	for i, read := range reads {
		r := Open(s)
		again := read(r)
		rest := s[len(s)-r.Left():]
		if failed := rest == "" && !r.Done(); !failed && again+rest != s {
			t.Fatalf("read %d of %q: %q is written as %q", i, s, s[:len(s)-r.Left()], again)
		}
	}
}

// P1.4: what is read has exactly the bytes that were read as its encoding.
func TestCanonical(t *testing.T) {
	const alphabet = "012-;:,[]"
	all := []string{""}
	for range 5 {
		var longer []string
		for _, s := range all {
			for _, c := range alphabet {
				longer = append(longer, s+string(c))
			}
		}
		for _, s := range longer {
			checkCanonical(t, s)
			checkCanonical(t, "1["+s)
			checkCanonical(t, "2[1;"+s)
		}
		all = longer
	}
}

func FuzzCanonical(f *testing.F) {
	for _, s := range []string{"12;", "-12;", "3:a,b,", "2[1;-1;]", "1[0:,]", "-0;", "9223372036854775808;"} {
		f.Add(s)
	}
	f.Fuzz(checkCanonical)
}

// P1.4: no encoding is a prefix of that of another value of the same kind.
func TestNoPrefixes(t *testing.T) {
	ints, texts, lists, listsOfTexts := []string{}, []string{}, []string{}, []string{}
	for i, n := range someInts {
		ints = append(ints, Int(n))
		lists = append(lists, Nums([]int{n}), Nums([]int{n, n}), Nums(someInts[:i]), Nums([]int{n, 0, -1}))
	}
	for i, s := range someTexts {
		texts = append(texts, Text(s))
		listsOfTexts = append(listsOfTexts, Texts([]string{s, s, "a"}), Texts([]string{s, "b"}), Texts(someTexts[:i]))
	}
	for _, kind := range [][]string{ints, texts, lists, listsOfTexts} {
		slices.Sort(kind)
		kind = slices.Compact(kind)
		for i, a := range kind {
			for j, b := range kind {
				if i != j && strings.HasPrefix(b, a) {
					t.Errorf("%q is a prefix of %q", a, b)
				}
			}
		}
	}
}

// P1.5: encodings can be concatenated.
func TestConcatenation(t *testing.T) {
	var b strings.Builder
	for i, s := range someTexts {
		b.WriteString(Text(s))
		b.WriteString(Int(someInts[i]))
		b.WriteString(Texts(someTexts[i:]))
		b.WriteString(Nums(someInts[i:]))
	}
	r := Open(b.String())
	for i, s := range someTexts {
		if r.Text() != s || r.Int() != someInts[i] || !slices.Equal(r.Texts(), someTexts[i:]) || !slices.Equal(r.Nums(), someInts[i:]) {
			t.Fatalf("value %d", i)
		}
	}
	if !r.Done() {
		t.Error("something is left")
	}
}

// P1.5: encodings can be nested, and the encoding of a string may contain any bytes.
func TestNesting(t *testing.T) {
	s := ""
	for range 50 {
		s = Text(s) + Nums([]int{1, -1})
		s = Texts([]string{s, "],;:[", Text("")})
	}
	for depth := range 50 {
		l := Open(s).Texts()
		if len(l) != 3 || l[1] != "],;:[" || l[2] != "0:," {
			t.Fatalf("depth %d: %q", depth, l)
		}
		r := Open(l[0])
		s = r.Text()
		if !slices.Equal(r.Nums(), []int{1, -1}) || !r.Done() {
			t.Fatalf("depth %d: the numbers", depth)
		}
	}
	if s != "" {
		t.Errorf("innermost: %q", s)
	}
	every := make([]byte, 256)
	for i := range every {
		every[i] = byte(i)
	}
	if r := Open(Text(string(every)) + Num(1)); r.Text() != string(every) || r.Num() != 1 || !r.Done() {
		t.Error("all bytes")
	}
}
