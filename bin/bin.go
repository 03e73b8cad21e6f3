// Package bin is layer 1: numbers and texts as bytes. See shared/doc/01-bin.md.
package bin

import "hornbook/api"

// mostBytes is how many bytes a number has at most: 64 bits, in pieces of seven.
const mostBytes = 10

// more is the bit of a byte behind which another one of the number stands.
const more = 0x80

// Put answers b and the number's bytes behind it, in new memory.
func Put(b []byte, n int64) []byte {
	pieces, k := cut(n)
	out := make([]byte, 0, len(b)+k)
	out = append(out, b...)
	return append(out, pieces[:k]...)
}

// Get answers the number at a place, and the place behind it.
func Get(b []byte, at int) (int64, int, api.Errno) {
	if at < 0 || at > len(b) {
		return 0, 0, api.ErrRange
	}
	u := uint64(0)
	for i := range mostBytes {
		if at+i == len(b) {
			return 0, 0, api.ErrShort
		}
		c := b[at+i]
		u |= uint64(c&^more) << (7 * i)
		if c&more == 0 {
			if !lastCan(c, i) {
				return 0, 0, api.ErrForm
			}
			return unfold(u), at + i + 1, api.OK
		}
	}
	return 0, 0, api.ErrForm
}

// Text answers b and the text's bytes behind it, in new memory.
func Text(b []byte, s string) []byte {
	return append(Put(b, int64(len(s))), s...)
}

// GetText answers the text of at most so many bytes at a place, and the place behind it.
func GetText(b []byte, at, most int) (string, int, api.Errno) {
	n, from, e := Get(b, at)
	if e != api.OK {
		return "", 0, e
	}
	if n < 0 || n > int64(most) {
		return "", 0, api.ErrSize
	}
	if n > int64(len(b)-from) {
		return "", 0, api.ErrShort
	}
	to := from + int(n)
	return string(b[from:to]), to, api.OK
}

// All answers the bytes of numbers, one behind the other.
func All(n ...int64) []byte {
	var out []byte
	for _, x := range n {
		pieces, k := cut(x)
		out = append(out, pieces[:k]...)
	}
	return out
}

// Name tells whether a text can be a name.
func Name(s string) bool {
	if len(s) < 1 || len(s) > api.MaxName {
		return false
	}
	for i := range len(s) {
		if !letter(s[i]) && (i == 0 || !digit(s[i])) {
			return false
		}
	}
	return true
}

// cut answers the bytes of a number, and how many of the array they take.
func cut(n int64) ([mostBytes]byte, int) {
	var pieces [mostBytes]byte
	u := fold(n)
	k := 0
	for u >= more {
		pieces[k] = byte(u%more) | more
		u /= more
		k++
	}
	pieces[k] = byte(u)
	return pieces, k + 1
}

// fold turns a number into one without a sign: 2n, or -2n - 1 below 0.
func fold(n int64) uint64 {
	if n < 0 {
		// As 2(-n - 1) + 1: of the least number -n does not fit.
		return 2*uint64(-(n+1)) + 1
	}
	return 2 * uint64(n)
}

// unfold is the way back from fold.
func unfold(u uint64) int64 {
	half := int64(u / 2)
	if u%2 == 1 {
		return -half - 1
	}
	return half
}

// lastCan tells whether c can be the last byte of a number, with i bytes ahead of it.
func lastCan(c byte, i int) bool {
	if i > 0 && c == 0 {
		return false // One byte too many.
	}
	return i < mostBytes-1 || c <= 1 // The tenth has but the last one of 64 bits.
}

func letter(c byte) bool {
	return c >= 'A' && c <= 'Z' || c >= 'a' && c <= 'z' || c == '_'
}

func digit(c byte) bool {
	return c >= '0' && c <= '9'
}
