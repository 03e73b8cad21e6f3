// Package part reads bytes part after part. Behind the first error a reader reads nothing more, and answers zero values: who reads asks for the error once, at the end.
package part

import (
	"bytes"

	"hornbook/api"
	"hornbook/bin"
)

// Reader has the bytes, the place of the next part, and the first error.
type Reader struct {
	bytes []byte
	at    int
	err   api.Errno
}

// Open answers a reader that stands behind the head, with which the bytes must begin.
func Open(b []byte, head string) Reader {
	if len(b) > api.MaxBytes {
		return Reader{err: api.ErrSize}
	}
	if !bytes.HasPrefix(b, []byte(head)) {
		return Reader{err: api.ErrForm}
	}
	return Reader{bytes: b, at: len(head)}
}

// Next reads what a layer's Get reads at a place.
func Next[T any](r *Reader, get func(b []byte, at int) (T, int, api.Errno)) T {
	var part T
	if r.err == api.OK {
		part, r.at, r.err = get(r.bytes, r.at)
	}
	return part
}

// List reads how many there are, at most so many, and each.
func List[T any](r *Reader, most int, one func() T) []T {
	var l []T
	for range r.Number(most, api.ErrSize) {
		l = append(l, one())
	}
	return l
}

// Text reads a text of at most so many bytes.
func (r *Reader) Text(most int) string {
	return Next(r, func(b []byte, at int) (string, int, api.Errno) {
		return bin.GetText(b, at, most)
	})
}

// Number reads a number from 0 to most; another one is the error beyond.
func (r *Reader) Number(most int, beyond api.Errno) int {
	n := Next(r, bin.Get)
	if n < 0 || n > int64(most) {
		r.err = beyond
		return 0
	}
	return int(n)
}

// End answers the first error; if there was none, all bytes must have been read.
func (r *Reader) End() api.Errno {
	if r.err == api.OK && r.at < len(r.bytes) {
		return api.ErrForm
	}
	return r.err
}
