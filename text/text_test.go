package text

import (
	"math"
	"slices"
	"strings"
	"testing"
)

// stringsOver returns all strings over an alphabet of bytes with at most n bytes.
func stringsOver(alphabet string, n int) []string {
	all := []string{""}
	longest := all
	for range n {
		var longer []string
		for _, s := range longest {
			for i := range len(alphabet) {
				longer = append(longer, s+alphabet[i:i+1])
			}
		}
		all = append(all, longer...)
		longest = longer
	}
	return all
}

// someInts returns ints of all magnitudes, with those beside powers of 2 and 10.
func someInts() []int {
	var l []int
	for _, base := range []int{2, 10} {
		for n := 1; n > 0 && n <= math.MaxInt/base; n *= base {
			l = append(l, n-1, n, n+1, -n-1, -n, -n+1)
		}
	}
	return append(l, math.MaxInt, math.MaxInt-1, math.MinInt, math.MinInt+1)
}

// everyByte returns a string with all bytes, in order.
func everyByte() string {
	b := make([]byte, 256)
	for i := range b {
		b[i] = byte(i)
	}
	return string(b)
}

// P2.1: Decimal writes no zeros in front, and a minus before negative numbers.
func TestDecimal(t *testing.T) {
	cases := []struct {
		n    int
		want string
	}{
		{0, "0"}, {7, "7"}, {10, "10"}, {-1, "-1"}, {-10, "-10"}, {1234567890, "1234567890"},
		{math.MaxInt, "9223372036854775807"}, {math.MinInt, "-9223372036854775808"},
	}
	for _, c := range cases {
		if got := Decimal(c.n); got != c.want {
			t.Errorf("Decimal(%d) = %q, want %q", c.n, got, c.want)
		}
	}
}

// P2.1: Int reads decimals from -2^63 to 2^63 - 1.
func TestInt(t *testing.T) {
	cases := []struct {
		s    string
		want int
	}{
		{"0", 0}, {"1", 1}, {"9", 9}, {"10", 10}, {"100", 100}, {"-1", -1}, {"-9", -9}, {"-10", -10}, {"1234567890", 1234567890},
		{"9223372036854775807", math.MaxInt}, {"-9223372036854775807", -math.MaxInt}, {"-9223372036854775808", math.MinInt},
	}
	for _, c := range cases {
		if got, ok := Int(c.s); got != c.want || !ok {
			t.Errorf("Int(%q) = %d, %t", c.s, got, ok)
		}
	}
}

// P2.1: what is no decimal, and decimals of numbers that are no ints.
func TestIntRefuses(t *testing.T) {
	bad := []string{"", "-", "--1", "-0", "00", "-00", "01", "007", "-01", "-007", "+0", "+1", "+-1", " 1", "1 ", "1\n", "\t1", "- 1", "1-", "1-1",
		"a", "1a", "a1", "0x1", "0b1", "0o7", "1_0", "1.0", "1e3", "1,000", "'1'", "\"1\"", "\x00", "1\x00", "/", ":", "\xef\xbc\x91", "\xb2",
		"9223372036854775808", "-9223372036854775809", "9223372036854775810", "18446744073709551615", "18446744073709551616", "18446744073709551617",
		"-18446744073709551617", "99999999999999999999999999", "00000000000000000000000001", strings.Repeat("9", 10000)}
	for _, s := range bad {
		if got, ok := Int(s); got != 0 || ok {
			t.Errorf("Int(%q) = %d, %t", s, got, ok)
		}
	}
}

// P2.2: which bytes stand for themselves, and how the others are written.
func TestQuote(t *testing.T) {
	cases := [][2]string{
		{"", `""`}, {"abc", `"abc"`}, {" ", `" "`}, {"a\"\n\xc8", `"a\"\n\xc8"`}, {`"`, `"\""`}, {`\`, `"\\"`}, {`\n`, `"\\n"`}, {`\x41`, `"\\x41"`},
		{"\n\n", `"\n\n"`}, {"\t\r\x00", `"\x09\x0d\x00"`}, {"\x1f !", `"\x1f !"`}, {"}~\x7f\x80", `"}~\x7f\x80"`}, {"\xff\xab", `"\xff\xab"`},
		{"é", `"\xc3\xa9"`}, {"\u2028", `"\xe2\x80\xa8"`}, {"'`$", "\"'`$\""}, {"\a\b\f\v", `"\x07\x08\x0c\x0b"`},
	}
	for _, c := range cases {
		if got := Quote(c[0]); got != c[1] {
			t.Errorf("Quote(%q) = %s, want %s", c[0], got, c[1])
		}
		if got, ok := Unquote(c[1]); got != c[0] || !ok {
			t.Errorf("Unquote(%s) = %q, %t", c[1], got, ok)
		}
	}
}

// P2.2: every byte is written in the one way that the definition gives it.
func TestQuoteEveryByte(t *testing.T) {
	const digits = "0123456789abcdef"
	for i := range 256 {
		c := byte(i)
		want := string([]byte{'\\', 'x', digits[i/16], digits[i%16]})
		switch {
		case c == '\n':
			want = `\n`
		case c == '"' || c == '\\':
			want = `\` + string([]byte{c})
		case 32 <= c && c <= 126:
			want = string([]byte{c})
		}
		if got := Quote(string([]byte{c})); got != `"`+want+`"` {
			t.Errorf("byte %d: %s", i, got)
		}
	}
}

// P2.2: Unquote refuses what Quote does not return.
func TestUnquoteRefuses(t *testing.T) {
	bad := []string{"", `"`, "a", "abc", `a"`, `"a`, `"a"b`, `a"b"`, ` "a"`, `"a" `, "\"a\"\n", `"a""b"`, `"""`, `"a"b"`,
		`"\"`, `"\`, `"\\\"`, `"a\"`, `"\a"`, `"\t"`, `"\r"`, `"\0"`, `"\'"`, `"\ "`, `"\N"`, `"\X0a"`, `"\000"`, `"\u0041"`, `"\U00000041"`, `"\u00e9"`,
		`"\x"`, `"\x0"`, `"\x0g"`, `"\xg0"`, `"\xC8"`, `"\xcG"`, `"\xfF"`, `"\x+1"`, `"\x 1"`, `"\x-1"`, `"\x_1"`, `"\x8`, `"\xc`, `"\xc8`,
		`"\x0a"`, `"\x22"`, `"\x5c"`, `"\x20"`, `"\x41"`, `"\x7e"`, "\"\n\"", "\"\t\"", "\"\x00\"", "\"\x1f\"", "\"\x7f\"", "\"\x80\"", "\"\xc8\"", `"é"`,
		"'a'", "`a`", "''", "``", "'\"'", "`\"`", `'\''`, "\xe2\x80\x9ca\xe2\x80\x9d"}
	for _, s := range bad {
		if got, ok := Unquote(s); got != "" || ok {
			t.Errorf("Unquote(%q) = %q, %t", s, got, ok)
		}
	}
}

// P2.3: Lines ends lines at LFs only, and has an empty last line only if an LF follows it.
func TestLines(t *testing.T) {
	cases := []struct {
		s    string
		want []string
	}{
		{"", nil}, {"\n", []string{""}}, {"\n\n", []string{"", ""}}, {"a", []string{"a"}}, {"a\n", []string{"a"}}, {"a\nb", []string{"a", "b"}},
		{"a\n\nb", []string{"a", "", "b"}}, {"a\n\nb\n", []string{"a", "", "b"}}, {"\na", []string{"", "a"}}, {"a\n\n", []string{"a", ""}},
		{" a \n\t", []string{" a ", "\t"}}, {"a\r\nb\rc", []string{"a\r", "b\rc"}}, {"\x00\n\xff", []string{"\x00", "\xff"}}, {"a\vb\fc", []string{"a\vb\fc"}},
		{"\xe2\x80\xa8\nb", []string{"\xe2\x80\xa8", "b"}},
	}
	for _, c := range cases {
		if got := Lines(c.s); !slices.Equal(got, c.want) {
			t.Errorf("Lines(%q) = %q", c.s, got)
		}
	}
}

// P2.3: Unlines puts an LF after each element, whatever the element contains.
func TestUnlines(t *testing.T) {
	cases := []struct {
		l    []string
		want string
	}{
		{nil, ""}, {[]string{}, ""}, {[]string{""}, "\n"}, {[]string{"", ""}, "\n\n"}, {[]string{"a"}, "a\n"}, {[]string{"a", "", "b"}, "a\n\nb\n"},
		{[]string{"a\n", "b"}, "a\n\nb\n"}, {[]string{"\xff", "\x00"}, "\xff\n\x00\n"},
	}
	for _, c := range cases {
		if got := Unlines(c.l); got != c.want {
			t.Errorf("Unlines(%q) = %q", c.l, got)
		}
	}
}

// P2.3: Fields are separated by spaces, tabs and LFs, and by no other bytes.
func TestFields(t *testing.T) {
	cases := []struct {
		s    string
		want []string
	}{
		{"", nil}, {" ", nil}, {" \t\n", nil}, {"a", []string{"a"}}, {" a  b\n", []string{"a", "b"}}, {"a\tb\nc d", []string{"a", "b", "c", "d"}},
		{"\n\nab\t\tcd", []string{"ab", "cd"}}, {"a\rb\vc\fd\x00e", []string{"a\rb\vc\fd\x00e"}}, {"\r \v", []string{"\r", "\v"}},
		{"\xc2\x85 \xc2\xa0 \xe3\x80\x80", []string{"\xc2\x85", "\xc2\xa0", "\xe3\x80\x80"}}, {"\x85\xa0", []string{"\x85\xa0"}}, {"\xff a", []string{"\xff", "a"}},
		{"a a", []string{"a", "a"}}, {`\ "b c"`, []string{`\`, `"b`, `c"`}},
	}
	for _, c := range cases {
		if got := Fields(c.s); !slices.Equal(got, c.want) {
			t.Errorf("Fields(%q) = %q", c.s, got)
		}
	}
}

// P2.3: for each byte, whether it ends a line and a field.
func TestEveryByteInBetween(t *testing.T) {
	for i := range 256 {
		c := string([]byte{byte(i)})
		wantLines, wantFields := []string{"x" + c + "y"}, []string{"x" + c + "y"}
		if i == 10 {
			wantLines = []string{"x", "y"}
		}
		if i == 9 || i == 10 || i == 32 {
			wantFields = []string{"x", "y"}
		}
		if got := Lines("x" + c + "y"); !slices.Equal(got, wantLines) {
			t.Errorf("Lines with byte %d: %q", i, got)
		}
		if got := Fields("x" + c + "y"); !slices.Equal(got, wantFields) {
			t.Errorf("Fields with byte %d: %q", i, got)
		}
	}
}

// P2.3: the fields are the longest parts without white bytes, which are never empty.
func TestFieldsAreAllThatIsNotWhite(t *testing.T) {
	for _, s := range stringsOver(" \t\nab", 5) {
		other := strings.NewReplacer("\t", " ", "\n", " ").Replace(s)
		want := slices.DeleteFunc(strings.Split(other, " "), func(f string) bool { return f == "" })
		if got := Fields(s); !slices.Equal(got, want) {
			t.Fatalf("Fields(%q) = %q", s, got)
		}
	}
}

// P2.6: the slices that are returned share no memory, not even beyond their lengths, and arguments stay as they are.
func TestPurity(t *testing.T) {
	l := []string{"a", "b", "c\n", "d"}
	if got := Unlines(l[:2]); got != "a\nb\n" || !slices.Equal(l, []string{"a", "b", "c\n", "d"}) {
		t.Errorf("Unlines: %q, %q", got, l)
	}
	for name, f := range map[string]func(string) []string{"Lines": Lines, "Fields": Fields} {
		s := "ab\ncd\nef\n"
		x, y := f(s), f(s)
		x[0] = "changed"
		_ = append(x, "more")
		_ = append(x[:1], "other", "others")
		if want := []string{"ab", "cd", "ef"}; !slices.Equal(y, want) || !slices.Equal(f(s), want) {
			t.Errorf("%s shares memory: %q", name, y)
		}
	}
}

// P2.6: a result depends on the arguments alone, whatever was called before.
func TestNothingIsKept(t *testing.T) {
	all := func() []string {
		var l []string
		for _, s := range []string{"", "12", "a b\nc", `"x"`, "[a-c]*", `\*[`, "\xff\x00"} {
			l = append(l, Quote(s), Plain(s), Escape(s), strings.Join(Lines(s), "|"), strings.Join(Fields(s), "|"))
			n, isInt := Int(s)
			u, isQuoted := Unquote(s)
			for _, yes := range []bool{isInt, isQuoted, Magic(s), Pattern(s, "b12"), Pattern(s, s)} {
				if yes {
					l = append(l, "yes")
				} else {
					l = append(l, "no")
				}
			}
			l = append(l, Decimal(n), u)
		}
		return l
	}
	first := all()
	for range 3 {
		if got := all(); !slices.Equal(got, first) {
			t.Fatalf("%q, then %q", first, got)
		}
	}
}

// P2.7: Int inverts Decimal.
func TestIntInvertsDecimal(t *testing.T) {
	l := someInts()
	for n := range 2001 {
		l = append(l, n-1000)
	}
	for _, n := range l {
		if got, ok := Int(Decimal(n)); got != n || !ok {
			t.Errorf("Int(Decimal(%d)) = %d, %t", n, got, ok)
		}
	}
}

// isDecimal is the definition of a decimal, which says nothing of its size.
func isDecimal(s string) bool {
	if s == "0" {
		return true
	}
	s = strings.TrimPrefix(s, "-")
	return s != "" && s[0] != '0' && strings.Trim(s, "0123456789") == ""
}

// checkInt checks that Int accepts a short string just if it is a decimal, which is then that of the number.
func checkInt(t *testing.T, s string) {
	t.Helper()
	n, ok := Int(s)
	if ok && Decimal(n) != s || !ok && n != 0 || len(s) <= 18 && ok != isDecimal(s) {
		t.Fatalf("Int(%q) = %d, %t", s, n, ok)
	}
}

// P2.7: Int accepts nothing but decimals.
func TestIntAcceptsDecimalsOnly(t *testing.T) {
	for _, s := range stringsOver("019-+_x. ", 5) {
		checkInt(t, s)
	}
}

// P2.7: Unquote inverts Quote.
func TestUnquoteInvertsQuote(t *testing.T) {
	l := append(stringsOver("\"\\nx0a\n\x00\xff ", 4), everyByte(), strings.Repeat(everyByte(), 3), strings.Repeat(`\`, 1000))
	for _, s := range l {
		if got, ok := Unquote(Quote(s)); got != s || !ok {
			t.Fatalf("Unquote(Quote(%q)) = %q, %t", s, got, ok)
		}
	}
}

// checkUnquote checks that Unquote returns something only if s is what Quote returns for it.
func checkUnquote(t *testing.T, s string) {
	t.Helper()
	u, ok := Unquote(s)
	if ok && Quote(u) != s || !ok && u != "" {
		t.Fatalf("Unquote(%q) = %q, %t", s, u, ok)
	}
}

// P2.7: Unquote accepts nothing but what Quote returns.
func TestUnquoteAcceptsQuotedOnly(t *testing.T) {
	for _, s := range stringsOver("\"\\nx0aA\n\x80'", 4) {
		for _, whole := range []string{s, `"` + s + `"`, `"` + s, s + `"`, `"\x` + s + `"`} {
			checkUnquote(t, whole)
		}
	}
}

// P2.7: Lines inverts Unlines, if no element contains an LF; and it returns no line with one.
func TestLinesInvertsUnlines(t *testing.T) {
	elements := []string{"", "a", " ", "\r", "\x00", "\xff", "bc"}
	lists := [][]string{nil}
	for range 4 {
		for _, l := range lists {
			if got := Lines(Unlines(l)); !slices.Equal(got, l) {
				t.Fatalf("Lines(Unlines(%q)) = %q", l, got)
			}
		}
		var longer [][]string
		for _, l := range lists {
			for _, e := range elements {
				longer = append(longer, append(slices.Clone(l), e))
			}
		}
		lists = longer
	}
	for _, s := range stringsOver("\na\r", 6) {
		got := Lines(s)
		if whole := Unlines(got); whole != s && whole != s+"\n" || strings.Contains(strings.Join(got, ""), "\n") {
			t.Fatalf("Lines(%q) = %q", s, got)
		}
	}
}

func FuzzInt(f *testing.F) {
	for _, s := range []string{"0", "-1", "007", "9223372036854775808", "+5"} {
		f.Add(s)
	}
	f.Fuzz(checkInt)
}

func FuzzQuote(f *testing.F) {
	for _, s := range []string{"", `"a\n"`, `"\x0a"`, "a\xc8\n", `"\"`} {
		f.Add(s)
	}
	f.Fuzz(func(t *testing.T, s string) {
		checkUnquote(t, s)
		if got, ok := Unquote(Quote(s)); got != s || !ok {
			t.Fatalf("Unquote(Quote(%q)) = %q, %t", s, got, ok)
		}
	})
}
