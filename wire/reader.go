package wire

import (
	"muniment/api"
)

// Reader goes through bytes.
type Reader struct {
	s   string
	at  int
	err api.Errno
}

// NewReader is a reader at the front.
func NewReader(s string) *Reader { return &Reader{s: s} }

// Bytes is the next bytes.
func (r *Reader) Bytes(n int) string {
	if n < 0 {
		r.Fail(api.ErrArg)
	}
	if n > r.Left() {
		r.Fail(api.ErrCut)
	}
	if r.Err() != api.OK {
		return ""
	}
	from := r.at
	r.at += n
	return r.s[from:r.at]
}

// Number is the next number of so many bytes, 0 to 8.
func (r *Reader) Number(bytes int) uint64 {
	if bytes > mostBytes {
		r.Fail(api.ErrArg) // ahead of Bytes, which would only know that they are not there
	}
	return value(r.Bytes(bytes))
}

// Count is the next number of 4 bytes, which may not be above a most.
func (r *Reader) Count(most int) int {
	from := r.At()
	n := r.Number(countBytes)
	if most < 0 || n > uint64(most) {
		r.refuse(from, api.ErrMany)
		return 0
	}
	return int(n)
}

// Text is the next text of at most so many bytes.
func (r *Reader) Text(most int) string {
	from := r.At()
	s := r.Bytes(r.Count(most))
	if e := r.Err(); e != api.OK {
		r.refuse(from, e)
	}
	return s
}

// Hash is the next digest.
func (r *Reader) Hash() string { return r.Bytes(api.HashBytes) }

// Bool is the next byte as yes or no.
func (r *Reader) Bool() bool {
	from := r.At()
	n := r.Number(boolBytes)
	if n > 1 {
		r.refuse(from, api.ErrForm)
	}
	return n == 1
}

// Fail lays an error, if there is none.
func (r *Reader) Fail(e api.Errno) {
	if r != nil && r.err == api.OK {
		r.err = e
	}
}

// refuse lays an error, and gives back what was taken on the way to it.
func (r *Reader) refuse(from int, e api.Errno) {
	r.Fail(e)
	if r != nil {
		r.at = from
	}
}

// Err is the error.
func (r *Reader) Err() api.Errno {
	if r == nil {
		return api.ErrArg
	}
	return r.err
}

// At is how many bytes were taken.
func (r *Reader) At() int {
	if r == nil {
		return 0
	}
	return r.at
}

// Left is how many bytes are left.
func (r *Reader) Left() int {
	if r == nil {
		return 0
	}
	return len(r.s) - r.at
}

// End is the error, or that bytes are left.
func (r *Reader) End() api.Errno {
	if r.Left() > 0 {
		r.Fail(api.ErrMore)
	}
	return r.Err()
}
