// Package wire puts numbers and texts as bytes, and reads them again.
package wire

import (
	"almonry/api"
)

const (
	digitBits = 7
	// more is added to each digit of a number but the last one.
	more = 1 << digitBits
	// maxDigits is how many digits a number may have when it is read.
	maxDigits = 8
)

// Reader reads what was put, from the beginning on, up to the first error.
type Reader struct {
	left string
	err  api.Errno
}

// Num puts a number.
func Num(n int) (string, api.Errno) {
	if n < 0 || n > api.MaxNum {
		return "", api.ErrRange
	}
	return string(appendNum(nil, n)), api.OK
}

// appendNum lays a number that is not negative behind out: digits of seven bits, the lowest first.
func appendNum(out []byte, n int) []byte {
next:
	if n >= more {
		out = append(out, byte(n%more+more))
		n >>= digitBits
		goto next
	}
	return append(out, byte(n))
}

// Text puts a text behind its length.
func Text(s string) (string, api.Errno) {
	if len(s) > api.MaxText {
		return "", api.ErrLong
	}
	return string(appendText(nil, s)), api.OK
}

// appendText lays a text's length and the text behind out.
func appendText(out []byte, s string) []byte {
	return append(appendNum(out, len(s)), s...)
}

// List puts texts behind their count.
func List(l []string) (string, api.Errno) {
	if len(l) > api.MaxList {
		return "", api.ErrLong
	}
	out := appendNum(nil, len(l))
	for _, s := range l {
		if len(s) > api.MaxText {
			return "", api.ErrLong
		}
		out = appendText(out, s)
	}
	return string(out), api.OK
}

// New makes a reader at the beginning of s.
func New(s string) *Reader { return &Reader{left: s} }

// Num takes a number.
func (r *Reader) Num() int {
	if r.Err() != api.OK {
		return 0
	}
	n, size, err := number(r.left)
	if err != api.OK {
		r.err = err
		return 0
	}
	r.left = r.left[size:]
	return n
}

// number reads the number at the beginning of s, and counts its bytes.
func number(s string) (int, int, api.Errno) {
	n, size := 0, 0
next:
	// A number without an end is cut, however long it is: the end is looked for first.
	if size == len(s) {
		return 0, 0, api.ErrCut
	}
	digit := s[size]
	if size < maxDigits {
		n |= int(digit%more) << (digitBits * size)
	}
	size++
	if digit >= more {
		goto next
	}
	if size > maxDigits || n > api.MaxNum {
		return 0, 0, api.ErrRange
	}
	if digit == 0 && size > 1 {
		return 0, 0, api.ErrForm
	}
	return n, size, api.OK
}

// Text takes a text.
func (r *Reader) Text() string {
	size, ok := r.count(api.MaxText)
	if !ok {
		return ""
	}
	if size > len(r.left) {
		r.err = api.ErrCut
		return ""
	}
	s := r.left[:size]
	r.left = r.left[size:]
	return s
}

// List takes texts.
func (r *Reader) List() []string {
	count, ok := r.count(api.MaxList)
	if !ok {
		return nil
	}
	var l []string
	for range count {
		s := r.Text()
		if r.err != api.OK {
			return nil
		}
		l = append(l, s)
	}
	return l
}

// count takes a number that may be at most the limit.
func (r *Reader) count(limit int) (int, bool) {
	n := r.Num()
	if r.Err() != api.OK {
		return 0, false
	}
	if n > limit {
		r.err = api.ErrLong
		return 0, false
	}
	return n, true
}

// Err answers the first error.
func (r *Reader) Err() api.Errno {
	if r == nil {
		return api.ErrNil
	}
	return r.err
}

// Done answers the first error, and whether bytes are left if there is none.
func (r *Reader) Done() api.Errno {
	if err := r.Err(); err != api.OK {
		return err
	}
	if len(r.left) > 0 {
		return api.ErrForm
	}
	return api.OK
}
