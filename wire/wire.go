// Package wire is layer 2: see shared/doc/02-wire.md.
package wire

import (
	"hindsight/api"
)

const (
	more   = 0x80 // set in each byte of a number but the last one
	sumLen = 32
)

// Writer is bytes.
type Writer struct{ b []byte }

// Text: what was written.
func (w *Writer) Text() string {
	return string(w.b)
}

// Num: a number: seven bits in each byte, the highest first; all but the last one have the highest bit set.
func (w *Writer) Num(n uint64) *Writer {
	shift := 0
	for n>>shift >= more {
		shift += 7
	}
	for ; shift > 0; shift -= 7 {
		w.b = append(w.b, byte(n>>shift)|more)
	}
	w.b = append(w.b, byte(n)&^more)
	return w
}

// Int: a number that may be below 0: twice as great, or twice as great less one of what is below.
func (w *Writer) Int(n int) *Writer {
	if n < 0 {
		// Of the least int, only what is one more has an opposite.
		return w.Num(2*uint64(-(n+1)) + 1)
	}
	return w.Num(2 * uint64(n))
}

// Str: how many bytes, and these.
func (w *Writer) Str(s string) *Writer {
	w.Num(uint64(len(s)))
	w.b = append(w.b, s...)
	return w
}

// Sum: 32 bytes.
func (w *Writer) Sum(x api.Sum) *Writer {
	w.b = append(w.b, x[:]...)
	return w
}

// Sums: how many, and these.
func (w *Writer) Sums(l ...api.Sum) *Writer {
	w.Num(uint64(len(l)))
	for _, x := range l {
		w.Sum(x)
	}
	return w
}

// Reader takes things of bytes; an error stays.
type Reader struct {
	left string // nothing, once there is an error
	err  api.Errno
}

// Read: all of a text.
func Read(s string) *Reader {
	return &Reader{left: s}
}

// Err: the error.
func (r *Reader) Err() api.Errno {
	return r.err
}

// Fail: an error, if there is none.
func (r *Reader) Fail(e api.Errno) {
	if r.err == api.OK {
		r.err = e
	}
	r.left = ""
}

// End: ErrForm, if something is left.
func (r *Reader) End() api.Errno {
	if r.left != "" {
		r.Fail(api.ErrForm)
	}
	return r.err
}

// Num: a number.
func (r *Reader) Num() uint64 {
	n := uint64(0)
	for i := 0; i < len(r.left); i++ {
		b := r.left[i]
		// A first byte without bits would be a second spelling; behind more than 57 bits, seven don't fit any more.
		if i == 0 && b == more || n>>57 != 0 {
			r.Fail(api.ErrForm)
			return 0
		}
		n = n<<7 | uint64(b&^more)
		if b < more {
			r.left = r.left[i+1:]
			return n
		}
	}
	r.Fail(api.ErrEnd)
	return 0
}

// Int: a number that may be below 0.
func (r *Reader) Int() int {
	n := r.Num()
	if n%2 == 1 {
		return -int(n/2) - 1
	}
	return int(n / 2)
}

// Upto: a number of at most so much.
func (r *Reader) Upto(most int) int {
	n := r.Num()
	if n > uint64(max(most, 0)) {
		r.Fail(api.ErrBig)
		return 0
	}
	return int(n)
}

// Str: a text of at most so many bytes.
func (r *Reader) Str(most int) string {
	return r.take(r.Upto(most))
}

// Sum: 32 bytes.
func (r *Reader) Sum() api.Sum {
	var x api.Sum
	copy(x[:], r.take(sumLen))
	return x
}

// Sums: at most so many.
func (r *Reader) Sums(most int) []api.Sum {
	n := r.Upto(most)
	// The number that is told may be far greater than what there is, so none is taken before that is known.
	if n > len(r.left)/sumLen {
		r.Fail(api.ErrEnd)
		return nil
	}
	var l []api.Sum
	for range n {
		l = append(l, r.Sum())
	}
	return l
}

// take is the next n bytes.
func (r *Reader) take(n int) string {
	if n > len(r.left) {
		r.Fail(api.ErrEnd)
		return ""
	}
	s := r.left[:n]
	r.left = r.left[n:]
	return s
}
