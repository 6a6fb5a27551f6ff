package text

import (
	"slices"
	"strings"
	"testing"
)

// refPart is a part of a pattern as the definition describes it: any string, or the set of bytes that it matches.
type refPart struct {
	text  string // the bytes of the pattern
	star  bool
	magic bool
	set   [256]bool
}

// refParts cuts a pattern in the way in which the definition is written, without regard to time.
func refParts(p string) []refPart {
	var parts []refPart
	for p != "" {
		r := refPart{text: p[:1]}
		switch class, inner, not := refClass(p); {
		case p[0] == '\\' && len(p) > 1:
			r.text = p[:2]
			r.set[p[1]] = true
		case p[0] == '*':
			r.star, r.magic = true, true
		case p[0] == '?':
			r.magic = true
			for c := range r.set {
				r.set[c] = true
			}
		case class != "":
			r.text, r.magic = class, true
			in := refSet(inner)
			for c := range r.set {
				r.set[c] = in[c] != not
			}
		default:
			r.set[p[0]] = true
		}
		parts = append(parts, r)
		p = p[len(r.text):]
	}
	return parts
}

// refClass returns the class at the beginning of p, its set, and whether it matches the bytes that are not in it.
func refClass(p string) (class, set string, not bool) {
	if p[0] != '[' {
		return "", "", false
	}
	if len(p) > 1 && p[1] == '!' {
		for end := 3; end < len(p); end++ {
			if p[end] == ']' {
				return p[:end+1], p[2:end], true
			}
		}
	}
	for end := 2; end < len(p); end++ {
		if p[end] == ']' {
			return p[:end+1], p[1:end], false
		}
	}
	return "", "", false
}

// refSet returns the bytes in the set of a class.
func refSet(s string) [256]bool {
	var set [256]bool
	for i := 0; i < len(s); i++ {
		if i+2 < len(s) && s[i+1] == '-' {
			for c := int(s[i]); c <= int(s[i+2]); c++ {
				set[c] = true
			}
			i += 2
			continue
		}
		set[s[i]] = true
	}
	return set
}

// refMatch tries every length for every *.
func refMatch(parts []refPart, s string) bool {
	switch {
	case len(parts) == 0:
		return s == ""
	case parts[0].star:
		for i := range len(s) + 1 {
			if refMatch(parts[1:], s[i:]) {
				return true
			}
		}
		return false
	default:
		return s != "" && parts[0].set[s[0]] && refMatch(parts[1:], s[1:])
	}
}

func refMagic(parts []refPart) bool {
	return slices.ContainsFunc(parts, func(r refPart) bool { return r.magic })
}

func refPlain(parts []refPart) string {
	s := ""
	for _, r := range parts {
		if len(r.text) == 2 && r.text[0] == '\\' {
			r.text = r.text[1:]
		}
		s += r.text
	}
	return s
}

// somePatterns returns patterns with all kinds of parts next to one another.
func somePatterns() []string {
	l := stringsOver(`*?[]!-\ab`, 4)
	for _, s := range stringsOver("]!-ac\\", 4) {
		l = append(l, "["+s+"]", "[!"+s+"]", "*["+s, "["+s+"]*b")
	}
	return l
}

// P2.4: each kind of part.
func TestPattern(t *testing.T) {
	cases := []struct {
		p, s string
		want bool
	}{
		{"", "", true}, {"", "a", false}, {"a", "", false}, {"a", "a", true}, {"a", "b", false}, {"abc", "abc", true}, {"abc", "ab", false}, {"ab", "abc", false},
		{"*", "", true}, {"*", "abc", true}, {"**", "", true}, {"**", "ab", true}, {"a*", "a", true}, {"a*", "b", false}, {"*a", "ba", true}, {"*a", "ab", false},
		{"a*b", "ab", true}, {"a*b", "aXXb", true}, {"a*b", "abX", false}, {"a*b*c", "aXbbYc", true}, {"*ab*ab", "abab", true}, {"*ab*ab", "aab", false},
		{"*aab", "aaab", true}, {"*a*a*a", "aa", false}, {"*", "/", true}, {"*", ".x", true}, {"*", "\n\x00\xff", true},
		{"?", "", false}, {"?", "a", true}, {"?", "ab", false}, {"?", "\n", true}, {"?", "\xff", true}, {"?", "é", false}, {"??", "é", true}, {"?*", "", false}, {"*?", "ab", true},
		{"a*[!x-z]?", "abcd", true}, {"a*[!x-z]?", "aby", true}, {"a*[!x-z]?", "ayb", false}, {"[]]", "]", true}, {"[a", "[a", true},
		{"\xff", "\xff", true}, {"\xff", "\xfe", false}, {"\x00", "\x00", true}, {"é", "é", true}, {"!", "!", true}, {"]", "]", true}, {"-", "-", true}, {"a-c", "b", false},
		{"{a,b}", "a", false}, {"a.c", "abc", false}, {"^a$", "a", false}, {"A", "a", false},
	}
	for _, c := range cases {
		if got := Pattern(c.p, c.s); got != c.want {
			t.Errorf("Pattern(%q, %q) = %t", c.p, c.s, got)
		}
	}
}

// P2.4: a backslash protects the byte after it, and matches itself at the end.
func TestBackslash(t *testing.T) {
	cases := []struct {
		p, s string
		want bool
	}{
		{`\*`, "*", true}, {`\*`, "ab", false}, {`\*`, `\*`, false}, {`\*`, "", false}, {`\?`, "?", true}, {`\?`, "a", false}, {`\a`, "a", true}, {`\a`, `\a`, false},
		{`\n`, "n", true}, {`\n`, "\n", false}, {`\\`, `\`, true}, {`\\`, `\\`, false}, {`\`, `\`, true}, {`\`, "", false}, {`a\`, `a\`, true}, {`\\\`, `\\`, true},
		{`\\*`, `\ab`, true}, {`\\*`, "*", false}, {`\[a]`, "[a]", true}, {`\[a]`, "a", false}, {`*\`, `ab\`, true}, {`*\`, "ab", false}, {"\\\xff", "\xff", true}, {"\\\n", "\n", true},
		{`[\*]`, `\`, true}, {`[\*]`, "*", true}, {`[\*]`, `\*`, false}, {`[\]`, `\`, true}, {`[\]]`, `\]`, true}, {`[\]]`, "]", false}, {`[!\]`, `\`, false}, {`[!\]`, "a", true},
		{`[a\]b]`, `\b]`, true}, {`[a\]b]`, "ab]", true}, {`[\`, `[\`, true}, {`[\a`, "[a", true},
	}
	for _, c := range cases {
		if got := Pattern(c.p, c.s); got != c.want {
			t.Errorf("Pattern(%q, %q) = %t", c.p, c.s, got)
		}
	}
}

// P2.4: for classes, exactly the single bytes of in match.
func TestClassMatchesBytes(t *testing.T) {
	other := func(set string) string {
		return strings.Map(func(r rune) rune {
			if strings.ContainsRune(set, r) {
				return -1
			}
			return r
		}, everyByte()[:128]) + everyByte()[128:]
	}
	cases := []struct{ p, in string }{
		{"[a]", "a"}, {"[abc]", "abc"}, {"[aa]", "a"}, {"[a-c]", "abc"}, {"[a-a]", "a"}, {"[c-a]", ""}, {"[!c-a]", everyByte()}, {"[a-cx]", "abcx"}, {"[xa-c]", "abcx"},
		{"[a-cb-e]", "abcde"}, {"[a-c-e]", "-abce"}, {"[-a]", "-a"}, {"[a-]", "-a"}, {"[-]", "-"}, {"[--]", "-"}, {"[---]", "-"}, {"[--/]", "-./"}, {"[+--]", "+,-"}, {"[a--]", ""},
		{"[!a]", other("a")}, {"[!a-c]", other("abc")}, {"[!]", "!"}, {"[!!]", other("!")}, {"[a!]", "!a"}, {"[!-]", other("-")}, {"[!-#]", other("#-")}, {"[^a]", "^a"},
		{"[]]", "]"}, {"[]a]", "]a"}, {"[!]]", other("]")}, {"[!]a]", other("]a")}, {"[]-_]", "]^_"}, {"[!]-_]", other("]^_")}, {"[[]", "["}, {"[![]", other("[")}, {"[[a]", "[a"},
		{"[*]", "*"}, {"[?]", "?"}, {`[\]`, `\`}, {`[\-^]`, `\]^`}, {"[ \n]", " \n"}, {"[\x00-\xff]", everyByte()}, {"[!\x00-\xff]", ""}, {"[\x7f-\x81]", "\x7f\x80\x81"}, {"[\xff-\x00]", ""},
	}
	for _, c := range cases {
		for i := range 256 {
			b := string([]byte{byte(i)})
			if got := Pattern(c.p, b); got != strings.Contains(c.in, b) {
				t.Errorf("Pattern(%q, %q) = %t", c.p, b, got)
			}
		}
		if Pattern(c.p, "") || Pattern(c.p, "aa") || Pattern(c.p, c.p) {
			t.Errorf("%q matches something other than one byte", c.p)
		}
	}
}

// P2.4: where a class ends, and what follows a [ that matches itself.
func TestClassEnds(t *testing.T) {
	cases := []struct {
		p, s string
		want bool
	}{
		{"[", "[", true}, {"[", "", false}, {"[[", "[[", true}, {"[]", "[]", true}, {"[]", "]", false}, {"[!", "[!", true}, {"[!", "!", false}, {"[!a", "[!a", true}, {"[a-", "[a-", true},
		{"[!]", "!", true}, {"[!]", "a", false}, {"[!]", "[!]", false}, {"[!]a", "!a", true}, {"[!]a]", "x", true}, {"[!]a]", "!a]", false},
		{"[a]]", "a]", true}, {"[a]]", "]", false}, {"[]a]b]", "ab]", true}, {"[a]b]", "ab]", true}, {"[[]]", "[]", true}, {"[[]a]", "[a]", true}, {"[[a]", "a", true},
		{"[*", "[abc", true}, {"[?", "[a", true}, {"[?", "?", false}, {"[*a", "[xya", true}, {`[\*`, "[*", true}, {`[\*`, "[ab", false}, {`[!\*`, "[!*", true}, {"[a*", "[a", true},
		{"x[a]y", "xay", true}, {"[a][b]", "ab", true}, {"[a]*[b]", "aXb", true}, {"*[ab]", "xb", true}, {"*[ab]", "xc", false}, {"[]*", "[]xyz", true}, {"[]*]", "*", true}, {"[]*]", "x", false},
		{"a]*[", "a]x[", true}, {`\[[]]`, "[]", true}, {`\[[]]`, "[]]", false},
	}
	for i, c := range cases {
		if got := Pattern(c.p, c.s); got != c.want {
			t.Errorf("case %d: Pattern(%q, %q) = %t", i, c.p, c.s, got)
		}
	}
}

// P2.4, P2.5: the three functions do for short patterns what the definition says.
func TestPatternsFollowTheDefinition(t *testing.T) {
	subjects := stringsOver(`*[]!-\abc`, 2)
	subjects = append(subjects, "aab", "aba", "bab", "abab", "aaaa", "[a]", "[]]", "[!]", `[\]`, "[a]b", "a-b", `a\b]`, "[!a]")
	for _, p := range somePatterns() {
		parts := refParts(p)
		if got := Magic(p); got != refMagic(parts) {
			t.Errorf("Magic(%q) = %t", p, got)
		}
		if got := Plain(p); got != refPlain(parts) {
			t.Errorf("Plain(%q) = %q", p, got)
		}
		for _, s := range subjects {
			if got := Pattern(p, s); got != refMatch(parts, s) {
				t.Errorf("Pattern(%q, %q) = %t", p, s, got)
			}
		}
	}
}

// P2.4: what the last * matches is found wherever it ends.
func TestStars(t *testing.T) {
	subjects := stringsOver("ab", 7)
	for _, p := range stringsOver("*a?b", 5) {
		parts := refParts(p)
		for _, s := range subjects {
			if got := Pattern(p, s); got != refMatch(parts, s) {
				t.Fatalf("Pattern(%q, %q) = %t", p, s, got)
			}
		}
	}
}

// P1, P2.4: many parts that could match in many ways are no trouble.
func TestLongPatterns(t *testing.T) {
	long := strings.Repeat("a", 2000)
	if Pattern(strings.Repeat("*a", 500)+"*b", long) || !Pattern(strings.Repeat("*a", 500)+"*", long) || !Pattern(strings.Repeat("*", 2000), long) {
		t.Error("many stars")
	}
	open := strings.Repeat("[", 300000)
	if !Pattern(open, open) || Magic(open) || Plain(open) != open || Magic("]"+open) || !Magic(open+"]") || !Pattern(open+"]", "[") {
		t.Error("many brackets")
	}
	open = strings.Repeat("[!", 150000)
	if !Pattern(open, open) || Magic(open) || Pattern(open+"]", "[") || !Pattern(open+"]", "a") {
		t.Error("many brackets with exclamation marks")
	}
}

// P2.5: Magic looks at parts, not at bytes.
func TestMagic(t *testing.T) {
	cases := map[string]bool{"": false, "a": false, "*": true, "?": true, "[a]": true, "[!a]": true, "[]]": true, "[!]": true, "[]": false, "[": false, "[a": false, "]": false, "a]": false,
		"x*": true, "a?b": true, `\*`: false, `\?`: false, `\[a]`: false, `[\a]`: true, `\\*`: true, `\\\*`: false, `\`: false, `*\`: true, `\a[b]`: true, "[!": false, "[*": true, `[\*`: false,
		"/.-!": false, "a]b[": false, `[\]`: true, "\xff": false}
	for p, want := range cases {
		if got := Magic(p); got != want {
			t.Errorf("Magic(%q) = %t", p, got)
		}
	}
}

// P2.5: Plain leaves out the backslashes that protect a byte, and no others.
func TestPlain(t *testing.T) {
	cases := [][2]string{{"", ""}, {"abc", "abc"}, {`\*`, "*"}, {`\a`, "a"}, {`\\`, `\`}, {`\`, `\`}, {`\\\`, `\\`}, {`\\\\`, `\\`}, {`a\`, `a\`}, {`a\*b\?`, "a*b?"}, {`[\*]`, `[\*]`},
		{`[\*`, "[*"}, {`[!\]\]`, `[!\]]`}, {`\[\*]`, "[*]"}, {`[a\]\b`, `[a\]b`}, {`*\*?`, "**?"}, {"\\\xff", "\xff"}, {"\\\n", "\n"}}
	for _, c := range cases {
		if got := Plain(c[0]); got != c[1] {
			t.Errorf("Plain(%q) = %q", c[0], got)
		}
	}
}

// P2.5: Escape puts a backslash before four bytes, and changes no others.
func TestEscape(t *testing.T) {
	cases := [][2]string{{"", ""}, {"abc", "abc"}, {"*", `\*`}, {"?", `\?`}, {"[", `\[`}, {`\`, `\\`}, {"]", "]"}, {"!-^{}", "!-^{}"}, {"[a]", `\[a]`}, {`\*`, `\\\*`}, {"a*b?", `a\*b\?`}, {"\xff\x00\n", "\xff\x00\n"}}
	for _, c := range cases {
		if got := Escape(c[0]); got != c[1] {
			t.Errorf("Escape(%q) = %q", c[0], got)
		}
	}
	for i := range 256 {
		c := string([]byte{byte(i)})
		want := c
		if strings.Contains(`*?[\`, c) {
			want = `\` + c
		}
		if got := Escape(c); got != want {
			t.Errorf("Escape(%q) = %q", c, got)
		}
	}
}

// P2.8: a pattern without magic matches exactly the string that Plain returns.
func TestWithoutMagic(t *testing.T) {
	subjects := stringsOver(`[]!*\ab`, 3)
	for _, p := range somePatterns() {
		if Magic(p) {
			continue
		}
		plain := Plain(p)
		if !Pattern(p, plain) {
			t.Errorf("%q does not match %q", p, plain)
		}
		for _, s := range append(subjects, p, p+"a", plain+"a", plain+plain) {
			if Pattern(p, s) && s != plain {
				t.Errorf("%q matches %q", p, s)
			}
		}
	}
}

// P2.8: Escape of a string has no magic, and Plain returns the string.
func TestEscapeHasNoMagic(t *testing.T) {
	for _, s := range append(somePatterns(), everyByte(), strings.Repeat("[*]\\", 100)) {
		if p := Escape(s); Magic(p) || Plain(p) != s || !Pattern(p, s) {
			t.Errorf("Escape(%q) = %q", s, p)
		}
	}
}

// canBeFollowed reports whether P2.9 speaks of p.
func canBeFollowed(p string) bool {
	return !strings.HasSuffix(p, `\`) && !slices.ContainsFunc(refParts(p), func(r refPart) bool { return r.text == "[" || r.text == "[!]" })
}

// P2.9: matches can be concatenated.
func TestConcatenation(t *testing.T) {
	subjects := stringsOver(`a]!-\`, 2)
	matched := func(p string) []string {
		return slices.DeleteFunc(slices.Clone(subjects), func(s string) bool { return !Pattern(p, s) })
	}
	seconds := append(stringsOver(`*[]!-\a`, 2), "]a", "[!]", "[]]", "[a]", "[!a]", `\]a`, "a]*")
	rights := map[string][]string{}
	for _, q := range seconds {
		rights[q] = matched(q)
	}
	firsts := append(stringsOver(`*?[]!-\a`, 3), "[!a]", "[!]]", "[a-]", `[\]`, `\[a`, `\[!]`, "[]-]", "[!-]")
	for _, p := range firsts {
		if !canBeFollowed(p) {
			continue
		}
		for _, s := range matched(p) {
			for _, q := range seconds {
				for _, r := range rights[q] {
					if !Pattern(p+q, s+r) {
						t.Fatalf("%q matches %q, and %q matches %q", p, s, q, r)
					}
				}
			}
		}
	}
}

func FuzzPattern(f *testing.F) {
	f.Add("a*[!x-z]?", "abcd")
	f.Add("[]-_]*\\", "]x\\")
	f.Fuzz(func(t *testing.T, p, s string) {
		if strings.Count(p, "*") > 4 || len(s) > 40 {
			t.Skip("the reference is too slow")
		}
		parts := refParts(p)
		if Pattern(p, s) != refMatch(parts, s) || Magic(p) != refMagic(parts) || Plain(p) != refPlain(parts) {
			t.Fatalf("%q, %q", p, s)
		}
		if e := Escape(s); Magic(e) || Plain(e) != s || !Pattern(e, s) || Escape(p) != e && p == s {
			t.Fatalf("Escape(%q) = %q", s, e)
		}
	})
}
