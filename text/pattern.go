package text

import "strings"

// Pattern reports whether p matches s.
func Pattern(p, s string) bool {
	parts := split(p)
	part, at := 0, 0      // the parts before part have matched the bytes before at
	star, taken := -1, -1 // the last * among them, and the end of what it matches
	// Each part but * matches one byte. If a later * is reached, what is before it need not be tried in another
	// way, for this * can match whatever is left over; so only the last one has to be remembered.
matching:
	for part < len(parts) || at < len(s) {
		switch {
		case part < len(parts) && parts[part] == "*":
			star, taken = part, at
			part++
		case part < len(parts) && at < len(s) && matches(parts[part], s[at]):
			part++
			at++
		case star >= 0 && taken < len(s):
			taken++
			part, at = star+1, taken
		default:
			break matching
		}
	}
	return part == len(parts) && at == len(s)
}

// Magic reports whether a part of p is *, ? or a class.
func Magic(p string) bool {
	for _, part := range split(p) {
		if part == "*" || part == "?" || isClass(part) {
			return true
		}
	}
	return false
}

// Plain returns p without the backslashes that only protect the bytes after them.
func Plain(p string) string {
	var b strings.Builder
	for _, part := range split(p) {
		if isProtected(part) {
			part = part[1:]
		}
		b.WriteString(part)
	}
	return b.String()
}

// Escape returns a pattern that matches s alone.
func Escape(s string) string {
	var b strings.Builder
	for i := range len(s) {
		switch s[i] {
		case '*', '?', '[', '\\':
			b.WriteByte('\\')
		}
		b.WriteByte(s[i])
	}
	return b.String()
}

// split returns the parts of p, of which the kind can be told by the length and the first byte.
func split(p string) []string {
	var parts []string
	// Where no ] follows, none is looked for: many [ that match themselves would make this slow.
	last := strings.LastIndexByte(p, ']')
	for at := 0; at < len(p); {
		n := 1
		switch {
		case p[at] == '\\' && at+1 < len(p):
			n = 2
		case p[at] == '[' && at+2 <= last:
			n = classSize(p[at:])
		}
		parts = append(parts, p[at:at+n])
		at += n
	}
	return parts
}

// classSize returns the length of the class at the beginning of p, which has a ] after at least two bytes.
func classSize(p string) int {
	if p[1] == '!' {
		if n := strings.IndexByte(p[3:], ']'); n >= 0 {
			return 3 + n + 1
		}
	}
	return 2 + strings.IndexByte(p[2:], ']') + 1
}

// isProtected reports whether a part is a backslash and the byte after it.
func isProtected(part string) bool { return len(part) == 2 }

// isClass reports whether a part is a class.
func isClass(part string) bool { return len(part) > 2 }

// matches reports whether a part other than * matches the byte c.
func matches(part string, c byte) bool {
	switch {
	case isClass(part):
		return classHas(part, c)
	case isProtected(part):
		return part[1] == c
	default:
		return part == "?" || part[0] == c
	}
}

// classHas reports whether a class matches the byte c.
func classHas(class string, c byte) bool {
	set := class[1 : len(class)-1]
	// A ! alone is the set itself, for a class is not empty.
	others := len(set) > 1 && set[0] == '!'
	if others {
		set = set[1:]
	}
	return setHas(set, c) != others
}

// setHas reports whether a byte c is in the set of a class.
func setHas(set string, c byte) bool {
	for set != "" {
		first, last, n := set[0], set[0], 1
		if len(set) > 2 && set[1] == '-' {
			last, n = set[2], 3
		}
		if first <= c && c <= last {
			return true
		}
		set = set[n:]
	}
	return false
}
