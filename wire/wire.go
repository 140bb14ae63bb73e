// Package wire is layer 1: numbers and texts in bytes; see shared/doc/01-wire.md.
package wire

import (
	"math/bits"

	"muniment/api"
)

// MaxWidth is the greatest width of a number of fixed width.
const MaxWidth = 8

// A short number's bytes hold so many bits of it each; the bit above them says that more bytes follow.
const (
	shortBits = 7
	more      = 1 << shortBits
	maxShort  = 10
	maxLast   = 1 // what the last of maxShort bytes may say: 63 bits of 64 stand ahead of it
)

var digits = [16]byte{'0', '1', '2', '3', '4', '5', '6', '7', '8', '9', 'a', 'b', 'c', 'd', 'e', 'f'}

// Put puts a short number behind a text.
func Put(s string, n uint64) string {
	var b [maxShort]byte
	last := Len(n) - 1
	for i := range last {
		b[i] = byte(n) | more
		n >>= shortBits
	}
	b[last] = byte(n)
	return s + string(b[:last+1])
}

// PutText puts a text behind another one, with its length ahead of it.
func PutText(s, t string) string { return Put(s, uint64(len(t))) + t }

// PutFixed puts a number of so many bytes behind a text.
func PutFixed(s string, n uint64, width int) (string, api.Errno) {
	if !isWidth(width) || bits.Len64(n) > 8*width {
		return "", api.ErrArg
	}
	var b [MaxWidth]byte
	for i := range width {
		b[width-1-i] = byte(n)
		n >>= 8
	}
	return s + string(b[:width]), api.OK
}

// Len is how many bytes a short number has.
func Len(n uint64) int { return max(1, (bits.Len64(n)+shortBits-1)/shortBits) }

// Hex is bytes as digits.
func Hex(s string) string {
	b := make([]byte, 0, 2*len(s))
	for i := range len(s) {
		b = append(b, digits[s[i]>>4], digits[s[i]&15])
	}
	return string(b)
}

// Unhex is digits as bytes.
func Unhex(s string) (string, api.Errno) {
	if len(s)%2 != 0 {
		return "", api.ErrForm
	}
	b := make([]byte, len(s)/2)
	for i := range b {
		high, isHigh := digitValue(s[2*i])
		low, isLow := digitValue(s[2*i+1])
		if !isHigh || !isLow {
			return "", api.ErrForm
		}
		b[i] = high<<4 | low
	}
	return string(b), api.OK
}

func digitValue(c byte) (byte, bool) {
	for v, d := range digits {
		if d == c {
			return byte(v), true
		}
	}
	return 0, false
}

func isWidth(width int) bool { return width >= 1 && width <= MaxWidth }

// short is the short number at the front of s, and how many bytes it has: 0 if none stands there.
func short(s string) (n uint64, size int) {
	for i := range min(len(s), maxShort) {
		b := s[i]
		n |= uint64(b&(more-1)) << (shortBits * i)
		if b >= more {
			continue
		}
		// A last byte of 0 says nothing: the number has a form with fewer bytes.
		if b == 0 && i > 0 || b > maxLast && i == maxShort-1 {
			return 0, 0
		}
		return n, i + 1
	}
	return 0, 0
}

// Reader takes things from the front of bytes.
type Reader struct {
	rest string
}

// New makes one.
func New(s string) *Reader { return &Reader{rest: s} }

// Left is how many bytes are left.
func (r *Reader) Left() int {
	if r == nil {
		return 0
	}
	return len(r.rest)
}

// taker makes the closure through which every call takes: it goes past head bytes and hands out the n behind them.
// Nothing else moves a reader, and it moves only once all of them are there, so a refused call takes nothing.
func (r *Reader) taker() func(head int, n uint64) (string, api.Errno) {
	return func(head int, n uint64) (string, api.Errno) {
		// A difference, since head and n may be too large to be added.
		if n > uint64(len(r.rest)-head) {
			return "", api.ErrForm
		}
		end := head + int(n)
		s := r.rest[head:end]
		r.rest = r.rest[end:]
		return s, api.OK
	}
}

// Uint takes a short number.
func (r *Reader) Uint() (uint64, api.Errno) {
	if r == nil {
		return 0, api.ErrNil
	}
	n, size := short(r.rest)
	if size == 0 {
		return 0, api.ErrForm
	}
	_, e := r.taker()(size, 0)
	return n, e
}

// Fixed takes a number of so many bytes.
func (r *Reader) Fixed(width int) (uint64, api.Errno) {
	if r == nil {
		return 0, api.ErrNil
	}
	if !isWidth(width) {
		return 0, api.ErrArg
	}
	s, e := r.taker()(0, uint64(width))
	var n uint64
	for i := range len(s) {
		n = n<<8 | uint64(s[i])
	}
	return n, e
}

// Text takes a text with its length ahead of it.
func (r *Reader) Text(most int) (string, api.Errno) {
	if r == nil {
		return "", api.ErrNil
	}
	if most < 0 {
		return "", api.ErrArg
	}
	n, head := short(r.rest)
	if head == 0 || n > uint64(most) {
		return "", api.ErrForm
	}
	return r.taker()(head, n)
}

// Take takes so many bytes.
func (r *Reader) Take(n int) (string, api.Errno) {
	if r == nil {
		return "", api.ErrNil
	}
	if n < 0 {
		return "", api.ErrArg
	}
	return r.taker()(0, uint64(n))
}

// End says whether nothing is left.
func (r *Reader) End() api.Errno {
	if r == nil {
		return api.ErrNil
	}
	if len(r.rest) > 0 {
		return api.ErrForm
	}
	return api.OK
}
