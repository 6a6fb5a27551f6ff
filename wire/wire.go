// Package wire is layer 1, a canonical encoding as text: see shared/doc/01-wire.md.
package wire

import (
	"math"
	"strconv"
	"strings"
)

// Num returns the encoding of the number n, or the empty string if n is negative.
func Num(n int) string {
	if n < 0 {
		return ""
	}
	return Int(n)
}

// Int returns the encoding of an int.
func Int(n int) string { return strconv.Itoa(n) + ";" }

// Text returns the encoding of a string.
func Text(s string) string { return strconv.Itoa(len(s)) + ":" + s + "," }

// Nums returns the encoding of a list of ints.
func Nums(l []int) string { return writeList(l, Int) }

// Texts returns the encoding of a list of strings.
func Texts(l []string) string { return writeList(l, Text) }

func writeList[T any](l []T, write func(T) string) string {
	var b strings.Builder
	b.WriteString(strconv.Itoa(len(l)))
	b.WriteByte('[')
	for _, v := range l {
		b.WriteString(write(v))
	}
	b.WriteByte(']')
	return b.String()
}

// Reader reads values.
type Reader struct {
	rest   string // what has not been read; empty after a failure, so that every later read fails too
	failed bool
}

// Open returns a reader at the beginning of s.
func Open(s string) *Reader { return &Reader{rest: s} }

// Num reads a number.
func (r *Reader) Num() int { return int(r.digits(math.MaxInt, ';')) }

// Int reads an int.
func (r *Reader) Int() int {
	rest, negative := strings.CutPrefix(r.rest, "-")
	if !negative {
		return r.Num()
	}
	r.rest = rest
	// The smallest int has no positive counterpart, so its digits are read as 2^63 and wrap around.
	n := r.digits(1<<63, ';')
	if n == 0 {
		r.fail()
	}
	return -int(n)
}

// Text reads a string.
func (r *Reader) Text() string {
	n := r.digits(math.MaxInt, ':')
	if n >= uint64(len(r.rest)) || r.rest[n] != ',' {
		r.fail()
		return ""
	}
	s := r.rest[:n]
	r.rest = r.rest[n+1:]
	return s
}

// Nums reads a list of ints.
func (r *Reader) Nums() []int { return readList(r, r.Int) }

// Texts reads a list of strings.
func (r *Reader) Texts() []string { return readList(r, r.Text) }

// Rest returns the bytes that have not been read, and moves the reader to the end.
func (r *Reader) Rest() string {
	s := r.rest
	r.rest = ""
	return s
}

// Left returns the number of bytes that have not been read.
func (r *Reader) Left() int { return len(r.rest) }

// Done reports whether everything was read.
func (r *Reader) Done() bool { return !r.failed && r.rest == "" }

func readList[T any](r *Reader, read func() T) []T {
	n := r.digits(math.MaxInt, '[')
	var l []T
	// The length is only a claim: nothing is allocated for elements that are not there.
	for i := uint64(0); i < n && !r.failed; i++ {
		l = append(l, read())
	}
	rest, closed := strings.CutPrefix(r.rest, "]")
	if !closed {
		r.fail()
		return nil
	}
	r.rest = rest
	return l
}

// digits reads the digits of an integer of at most limit, and the byte end after them.
func (r *Reader) digits(limit uint64, end byte) uint64 {
	n := uint64(0)
	for i := range len(r.rest) {
		c := r.rest[i]
		if c == end && i > 0 {
			r.rest = r.rest[i+1:]
			return n
		}
		zeroInFront := i > 0 && n == 0
		d := uint64(c - '0') // more than 9 if c is not a digit
		if d > 9 || zeroInFront || n > (limit-d)/10 {
			break
		}
		n = n*10 + d
	}
	r.fail()
	return 0
}

func (r *Reader) fail() {
	r.rest = ""
	r.failed = true
}
