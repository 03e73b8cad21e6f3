package part_test

import (
	"slices"
	"testing"

	"hornbook/api"
	"hornbook/bin"
	"hornbook/part"
)

// What klass and pack lean on in Get (P5.1, P6.1): parts in order, and no bytes left.
func TestPartsInOrder(t *testing.T) {
	b := bin.Text(bin.Text(append([]byte("HEAD"), bin.All(300, 2)...), "ab"), "")
	r := part.Open(b, "HEAD")
	n := r.Number(300, api.ErrArg)
	l := part.List(&r, 2, func() string { return r.Text(2) })
	if n != 300 || !slices.Equal(l, []string{"ab", ""}) || r.End() != api.OK {
		t.Errorf("%d, %q, error %d", n, l, r.End())
	}
	r = part.Open(b, "HEAD")
	r.Number(300, api.ErrArg)
	if r.End() != api.ErrForm {
		t.Errorf("with bytes left: error %d", r.End())
	}
}

// The first error stays, and nothing is read behind it.
func TestTheFirstErrorStays(t *testing.T) {
	r := part.Open(append([]byte("HEAD"), bin.All(7, 5, 5)...), "HEAD")
	if n := r.Number(6, api.ErrArg); n != 0 || r.End() != api.ErrArg {
		t.Errorf("a number beyond: %d, error %d", n, r.End())
	}
	asked := false
	got := part.Next(&r, func(b []byte, at int) (int, int, api.Errno) {
		asked = true
		return 5, at + 1, api.OK
	})
	list := part.List(&r, 9, func() int { return 5 })
	if n, s := r.Number(9, api.ErrSize), r.Text(9); asked || got != 0 || n != 0 || s != "" || len(list) != 0 || r.End() != api.ErrArg {
		t.Errorf("behind the error: %v, %d, %d, %q, %v, error %d", asked, got, n, s, list, r.End())
	}
}

// Bytes that are too many, or begin otherwise.
func TestOpen(t *testing.T) {
	for _, x := range []struct {
		b    []byte
		want api.Errno
	}{
		{nil, api.ErrForm}, {[]byte("HEA"), api.ErrForm}, {[]byte("HEAd"), api.ErrForm}, {[]byte("HEAD"), api.OK},
		{make([]byte, api.MaxBytes), api.ErrForm}, {make([]byte, api.MaxBytes+1), api.ErrSize},
	} {
		if r := part.Open(x.b, "HEAD"); r.End() != x.want {
			t.Errorf("Open of %d bytes: error %d, want %d", len(x.b), r.End(), x.want)
		}
	}
}
