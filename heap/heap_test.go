package heap_test

import (
	"math"
	"slices"
	"strings"
	"testing"

	"hornbook/api"
	"hornbook/heap"
)

// made answers a heap.
func made(t testing.TB, words int) *heap.Heap {
	t.Helper()
	h, e := heap.New(words)
	if h == nil || e != api.OK {
		t.Fatalf("New(%d) = %v, error %d", words, h != nil, e)
	}
	return h
}

// holds that what makes a thing tells an address and an error, and nothing but what can be beside it.
func holds(t *testing.T, what string, at int64, e api.Errno, wantAt int64, wantE api.Errno) {
	t.Helper()
	if at != wantAt || e != wantE {
		t.Errorf("%s = %d, error %d, want %d, error %d", what, at, e, wantAt, wantE)
	}
}

// The chapter's example.
func TestExample(t *testing.T) {
	h := made(t, 16)
	at, e := h.Thing(2, 1)
	holds(t, "Thing(2, 1)", at, e, 1, api.OK)
	at, e = h.Text(3, "hi")
	holds(t, `Text(3, "hi")`, at, e, 3, api.OK)
	if h.Used() != 5 || !slices.Equal(h.Raw(), []int64{131073, 0, 196610, 2, 26984}) {
		t.Errorf("Used = %d, Raw = %d", h.Used(), h.Raw())
	}
}

// P12.1: how many words there may be.
func TestNewOfHowMany(t *testing.T) {
	for _, n := range []int{math.MinInt, -16, -1, 0, 1, 15, 4097, 65536, math.MaxInt} {
		if h, e := heap.New(n); h != nil || e != api.ErrArg {
			t.Errorf("New(%d) = %v, error %d", n, h != nil, e)
		}
	}
	for _, n := range []int{16, 17, 100, 4095, 4096} {
		h := made(t, n)
		if h.Cap() != n || h.Used() != 0 || len(h.Raw()) != 0 || len(h.All()) != 0 {
			t.Errorf("New(%d): Cap %d, Used %d, Raw %d, All %d", n, h.Cap(), h.Used(), h.Raw(), h.All())
		}
		at, e := h.Thing(0, n)
		holds(t, "one word too many", at, e, 0, api.ErrFull)
		if n == api.MaxHeap {
			at, e = h.Array(0, n-1)
			holds(t, "the greatest array", at, e, 0, api.ErrFull)
		}
		at, e = h.Thing(0, n-1)
		holds(t, "just as many words", at, e, 1, api.OK)
		at, e = h.Thing(0, 0)
		holds(t, "one more of no words", at, e, 0, api.ErrFull)
		if h.Cap() != n || h.Used() != n || len(h.Raw()) != n {
			t.Errorf("New(%d), full: Cap %d, Used %d, Raw %d", n, h.Cap(), h.Used(), len(h.Raw()))
		}
	}
}

// P12.2: which arguments can not be; that comes ahead of that there is no room.
func TestArgumentsThatCanNotBe(t *testing.T) {
	h := made(t, 16)
	for range 2 {
		for _, id := range []int{math.MinInt, -1, 65536, math.MaxInt} {
			at, e := h.Thing(id, 3)
			holds(t, "Thing of a type that can not be", at, e, 0, api.ErrArg)
			at, e = h.Thing(id, 40)
			holds(t, "Thing of a type that can not be", at, e, 0, api.ErrArg)
			at, e = h.Array(id, 3)
			holds(t, "Array of a type that can not be", at, e, 0, api.ErrArg)
			at, e = h.Text(id, "a")
			holds(t, "Text of a type that can not be", at, e, 0, api.ErrArg)
			at, e = h.Text(id, strings.Repeat("a", 1000))
			holds(t, "Text of a type that can not be", at, e, 0, api.ErrArg)
		}
		for _, n := range []int{math.MinInt, -1, 4097, 65536, math.MaxInt} {
			at, e := h.Thing(5, n)
			holds(t, "Thing of as many words as can not be", at, e, 0, api.ErrArg)
			at, e = h.Array(5, n)
			holds(t, "Array of as many elements as can not be", at, e, 0, api.ErrArg)
		}
		at, e := h.Array(5, 4096)
		holds(t, "Array(5, 4096)", at, e, 0, api.ErrArg)
		at, e = h.Array(5, 4095)
		holds(t, "Array(5, 4095)", at, e, 0, api.ErrFull)
		at, e = h.Thing(5, 4096)
		holds(t, "Thing(5, 4096)", at, e, 0, api.ErrFull)
		at, e = h.Text(5, strings.Repeat("a", 65536))
		holds(t, "Text of 65536 bytes", at, e, 0, api.ErrFull)
		at, e = h.Text(5, strings.Repeat("a", 40000))
		holds(t, "Text of 40000 bytes", at, e, 0, api.ErrFull)
		// And once more, in a heap that is full.
		h.Thing(65535, 15-h.Used())
	}
	if !slices.Equal(h.All(), []int64{1}) || h.Used() != 16 {
		t.Errorf("All = %d, Used = %d", h.All(), h.Used())
	}
}

// P12.2: of each kind just as much as there is room for.
func TestNoRoom(t *testing.T) {
	for _, x := range []struct {
		what string
		make func(h *heap.Heap, behind int) (int64, api.Errno)
		most int
	}{
		{"Thing", func(h *heap.Heap, n int) (int64, api.Errno) { return h.Thing(9, n) }, 0},
		{"Array", func(h *heap.Heap, n int) (int64, api.Errno) { return h.Array(9, n-1) }, 1},
		{"Text of whole words", func(h *heap.Heap, n int) (int64, api.Errno) { return h.Text(9, strings.Repeat("x", 8*(n-1))) }, 1},
		{"Text of a byte more", func(h *heap.Heap, n int) (int64, api.Errno) { return h.Text(9, strings.Repeat("x", 8*(n-2)+1)) }, 2},
	} {
		for used := range 14 {
			h := made(t, 16)
			h.Thing(1, used)
			left := 16 - h.Used()
			at, e := x.make(h, left)
			holds(t, x.what+" of one too many", at, e, 0, api.ErrFull)
			if h.Used() != 1+used || !slices.Equal(h.All(), []int64{1}) {
				t.Errorf("%s: Used %d, All %d behind what was refused", x.what, h.Used(), h.All())
			}
			if left-1 < x.most {
				continue
			}
			at, e = x.make(h, left-1)
			holds(t, x.what+" of all that is left", at, e, int64(2+used), api.OK)
			if size, e := h.Size(at); h.Used() != 16 || size != left-1 || e != api.OK {
				t.Errorf("%s: Used %d, Size %d, error %d", x.what, h.Used(), size, e)
			}
		}
	}
}

// P12.2, P12.3: texts as words, and back.
func TestTexts(t *testing.T) {
	for _, x := range []struct {
		s    string
		want []int64
	}{
		{"", []int64{0}},
		{"a", []int64{1, 0x61}},
		{"\x00", []int64{1, 0}},
		{"abcdefg", []int64{7, 0x67666564636261}},
		{"abcdefgh", []int64{8, 0x6867666564636261}},
		{"abcdefghi", []int64{9, 0x6867666564636261, 0x69}},
		{"\xff", []int64{1, 0xff}},
		{"\xff\xff\xff\xff\xff\xff\xff\xff", []int64{8, -1}},
		{"\x00\x00\x00\x00\x00\x00\x00\x80\x80", []int64{9, math.MinInt64, 0x80}},
		{"é€", []int64{5, 0xac82e2a9c3}},
		{strings.Repeat("\x00", 16), []int64{16, 0, 0}},
	} {
		h := made(t, 40)
		h.Thing(8, 2)
		at, e := h.Text(7, x.s)
		holds(t, "Text", at, e, 4, api.OK)
		if raw := h.Raw(); !slices.Equal(raw[4:], x.want) || raw[3] != 7*65536+int64(len(x.want)) {
			t.Errorf("Text(7, %q): Raw = %d, want %d", x.s, raw, x.want)
		}
		if s, e := h.Bytes(at); s != x.s || e != api.OK {
			t.Errorf("Bytes of %q = %q, error %d", x.s, s, e)
		}
		if n, e := h.Len(at); n != len(x.s) || e != api.OK {
			t.Errorf("Len of %q = %d, error %d", x.s, n, e)
		}
		if id, e := h.Type(at); id != 7 || e != api.OK {
			t.Errorf("Type of %q = %d, error %d", x.s, id, e)
		}
	}
}

// P12.3: Len and Bytes of what was no text to begin with, and of one that was written into.
func TestLenAndBytesOfAnything(t *testing.T) {
	for _, x := range []struct {
		words []int64
		len   int
		lenE  api.Errno
		bytes string
		e     api.Errno
	}{
		{nil, 0, api.ErrForm, "", api.ErrForm},
		{[]int64{0}, 0, api.OK, "", api.OK},
		{[]int64{1}, 1, api.OK, "", api.ErrForm},
		{[]int64{-1}, -1, api.OK, "", api.ErrForm},
		{[]int64{-8, 0}, -8, api.OK, "", api.ErrForm},
		{[]int64{-8}, -8, api.OK, "", api.ErrForm},
		{[]int64{math.MinInt64, 5}, math.MinInt64, api.OK, "", api.ErrForm},
		{[]int64{math.MaxInt64, 5}, math.MaxInt64, api.OK, "", api.ErrForm},
		{[]int64{math.MaxInt64}, math.MaxInt64, api.OK, "", api.ErrForm},
		{[]int64{0, 0}, 0, api.OK, "", api.ErrForm},
		{[]int64{1, 0x41}, 1, api.OK, "A", api.OK},
		{[]int64{8, 0x41}, 8, api.OK, "A\x00\x00\x00\x00\x00\x00\x00", api.OK},
		{[]int64{9, 0x41}, 9, api.OK, "", api.ErrForm},
		{[]int64{2, 0x41, 0x42}, 2, api.OK, "", api.ErrForm},
		{[]int64{8, 0x41, 0x42}, 8, api.OK, "", api.ErrForm},
		{[]int64{9, 0x41, 0x42}, 9, api.OK, "A\x00\x00\x00\x00\x00\x00\x00B", api.OK},
		{[]int64{16, -1, -2}, 16, api.OK, strings.Repeat("\xff", 8) + "\xfe" + strings.Repeat("\xff", 7), api.OK},
		{[]int64{17, 0x41, 0x42}, 17, api.OK, "", api.ErrForm},
		// What stands behind the last byte plays no part.
		{[]int64{2, 0x7f434241}, 2, api.OK, "AB", api.OK},
	} {
		h := made(t, 40)
		at, _ := h.Thing(3, len(x.words))
		h.Thing(3, 4)
		for i, v := range x.words {
			if e := h.Set(at, i, v); e != api.OK {
				t.Errorf("Set(%d, %d, %d): error %d", at, i, v, e)
			}
		}
		if n, e := h.Len(at); n != x.len || e != x.lenE {
			t.Errorf("Len of %d = %d, error %d, want %d, error %d", x.words, n, e, x.len, x.lenE)
		}
		if s, e := h.Bytes(at); s != x.bytes || e != x.e {
			t.Errorf("Bytes of %d = %q, error %d, want %q, error %d", x.words, s, e, x.bytes, x.e)
		}
	}
	h := made(t, 16)
	at, _ := h.Array(3, 1)
	h.Set(at, 1, 0x58)
	if s, e := h.Bytes(at); s != "X" || e != api.OK {
		t.Errorf("Bytes of an array of one = %q, error %d", s, e)
	}
	at, _ = h.Array(3, 2)
	if s, e := h.Bytes(at); s != "" || e != api.ErrForm {
		t.Errorf("Bytes of an array of two = %q, error %d", s, e)
	}
}

// P12.3: the greatest and the least type and size are told as they were handed in.
func TestTypesAndSizes(t *testing.T) {
	for _, id := range []int{0, 1, 255, 256, 32767, 32768, 65534, 65535} {
		for _, size := range []int{0, 1, 2, 255, 256, 4095} {
			h := made(t, 4096)
			at, e := h.Thing(id, size)
			holds(t, "Thing", at, e, 1, api.OK)
			got, e := h.Type(at)
			many, f := h.Size(at)
			if got != id || e != api.OK || many != size || f != api.OK || h.Raw()[0] != int64(id)*65536+int64(size) {
				t.Errorf("Thing(%d, %d): Type %d, error %d, Size %d, error %d, Raw %d", id, size, got, e, many, f, h.Raw()[0])
			}
			if slices.ContainsFunc(h.Raw()[1:], func(v int64) bool { return v != 0 }) {
				t.Errorf("Thing(%d, %d) is not all 0", id, size)
			}
		}
	}
}

// P12.3, P12.4: an address that no thing has, though there be words.
func TestAddressesOfNone(t *testing.T) {
	h := made(t, 20)
	h.Thing(7, 3)
	h.Text(1, "abcdefghi")
	h.Thing(0, 0)
	// What is in a word makes no thing of it.
	h.Set(1, 1, 65537)
	h.Set(1, 2, 1)
	for _, at := range []int64{math.MinInt64, -1, 0, 2, 3, 4, 6, 7, 8, 10, 11, 19, 20, 21, 4096, 1 << 32, 1<<32 + 1, math.MaxInt64} {
		if id, e := h.Type(at); id != 0 || e != api.ErrRange {
			t.Errorf("Type(%d) = %d, error %d", at, id, e)
		}
		if n, e := h.Size(at); n != 0 || e != api.ErrRange {
			t.Errorf("Size(%d) = %d, error %d", at, n, e)
		}
		if v, e := h.Get(at, 0); v != 0 || e != api.ErrRange {
			t.Errorf("Get(%d, 0) = %d, error %d", at, v, e)
		}
		if e := h.Set(at, 0, 9); e != api.ErrRange {
			t.Errorf("Set(%d, 0, 9): error %d", at, e)
		}
		if n, e := h.Len(at); n != 0 || e != api.ErrRange {
			t.Errorf("Len(%d) = %d, error %d", at, n, e)
		}
		if s, e := h.Bytes(at); s != "" || e != api.ErrRange {
			t.Errorf("Bytes(%d) = %q, error %d", at, s, e)
		}
		for _, to := range []int64{math.MinInt64, 0, 1, 5} {
			if e := h.Send(at, to); e != api.ErrRange {
				t.Errorf("Send(%d, %d): error %d", at, to, e)
			}
		}
		if to, ok := h.Sent(at); to != 0 || ok {
			t.Errorf("Sent(%d) = %d, %v", at, to, ok)
		}
	}
	if !slices.Equal(h.All(), []int64{1, 5, 9}) || !slices.Equal(h.Raw(), []int64{7*65536 + 3, 0, 65537, 1, 65536 + 3, 9, 0x6867666564636261, 0x69, 0}) {
		t.Errorf("All = %d, Raw = %d", h.All(), h.Raw())
	}
}

// P12.3, P12.5: places of words, and that just one is written.
func TestGetAndSet(t *testing.T) {
	h := made(t, 20)
	h.Thing(1, 2)
	at, _ := h.Thing(2, 3)
	h.Thing(3, 2)
	for _, i := range []int{math.MinInt, -4, -1, 3, 4, 15, math.MaxInt} {
		if v, e := h.Get(at, i); v != 0 || e != api.ErrRange {
			t.Errorf("Get(%d, %d) = %d, error %d", at, i, v, e)
		}
		if e := h.Set(at, i, 77); e != api.ErrRange {
			t.Errorf("Set(%d, %d, 77): error %d", at, i, e)
		}
	}
	want := []int64{65538, 0, 0, 131075, 0, 0, 0, 196610, 0, 0}
	if !slices.Equal(h.Raw(), want) {
		t.Errorf("Raw = %d, want %d", h.Raw(), want)
	}
	for i, v := range []int64{math.MinInt64, -1, math.MaxInt64} {
		if e := h.Set(at, i, v); e != api.OK {
			t.Errorf("Set(%d, %d, %d): error %d", at, i, v, e)
		}
		if got, e := h.Get(at, i); got != v || e != api.OK {
			t.Errorf("Get(%d, %d) = %d, error %d", at, i, got, e)
		}
		want[4+i] = v
		if !slices.Equal(h.Raw(), want) {
			t.Errorf("Raw = %d, want %d", h.Raw(), want)
		}
	}
}

// P12.4: it is told once where a thing stands; nothing else is others by it.
func TestSend(t *testing.T) {
	h := made(t, 20)
	h.Thing(1, 2)
	h.Text(2, "hi")
	raw := h.Raw()
	for _, to := range []int64{math.MinInt64, -1, 0} {
		if e := h.Send(1, to); e != api.ErrArg {
			t.Errorf("Send(1, %d): error %d", to, e)
		}
	}
	if to, ok := h.Sent(1); to != 0 || ok {
		t.Errorf("Sent(1) = %d, %v behind what was refused", to, ok)
	}
	if e := h.Send(4, math.MaxInt64); e != api.OK {
		t.Errorf("Send(4, the greatest): error %d", e)
	}
	if e := h.Send(1, 1); e != api.OK {
		t.Errorf("Send(1, 1): error %d", e)
	}
	for _, to := range []int64{1, 2, math.MaxInt64} {
		if h.Send(1, to) != api.ErrState || h.Send(4, to) != api.ErrState {
			t.Errorf("what was sent is sent to %d", to)
		}
	}
	// That it can not be there comes ahead of that it was sent.
	if e := h.Send(1, 0); e != api.ErrArg {
		t.Errorf("Send(1, 0): error %d", e)
	}
	if to, ok := h.Sent(1); to != 1 || !ok {
		t.Errorf("Sent(1) = %d, %v", to, ok)
	}
	if to, ok := h.Sent(4); to != math.MaxInt64 || !ok {
		t.Errorf("Sent(4) = %d, %v", to, ok)
	}
	if s, e := h.Bytes(4); !slices.Equal(h.Raw(), raw) || !slices.Equal(h.All(), []int64{1, 4}) || s != "hi" || e != api.OK {
		t.Errorf("Raw = %d, All = %d, Bytes = %q, error %d behind Send", h.Raw(), h.All(), s, e)
	}
	if e := h.Set(1, 1, 5); e != api.OK || h.Raw()[2] != 5 {
		t.Errorf("Set of what was sent: error %d", e)
	}
	at, e := h.Thing(3, 1)
	holds(t, "Thing behind Send", at, e, 7, api.OK)
	if to, ok := h.Sent(at); to != 0 || ok {
		t.Errorf("Sent(%d) = %d, %v", at, to, ok)
	}
}

// holdNone holds what a heap answers that has no thing and makes none.
func holdNone(t *testing.T, h *heap.Heap, makes, asks api.Errno) {
	t.Helper()
	at, e := h.Thing(1, 1)
	holds(t, "Thing", at, e, 0, makes)
	at, e = h.Array(1, 1)
	holds(t, "Array", at, e, 0, makes)
	at, e = h.Text(1, "a")
	holds(t, "Text", at, e, 0, makes)
	for _, at := range []int64{-1, 0, 1} {
		if n, e := h.Type(at); n != 0 || e != asks {
			t.Errorf("Type(%d) = %d, error %d", at, n, e)
		}
		if n, e := h.Size(at); n != 0 || e != asks {
			t.Errorf("Size(%d) = %d, error %d", at, n, e)
		}
		if n, e := h.Get(at, 0); n != 0 || e != asks {
			t.Errorf("Get(%d, 0) = %d, error %d", at, n, e)
		}
		if e := h.Set(at, 0, 1); e != asks {
			t.Errorf("Set(%d, 0, 1): error %d", at, e)
		}
		if n, e := h.Len(at); n != 0 || e != asks {
			t.Errorf("Len(%d) = %d, error %d", at, n, e)
		}
		if s, e := h.Bytes(at); s != "" || e != asks {
			t.Errorf("Bytes(%d) = %q, error %d", at, s, e)
		}
		if e := h.Send(at, 0); e != asks {
			t.Errorf("Send(%d, 0): error %d", at, e)
		}
		if to, ok := h.Sent(at); to != 0 || ok {
			t.Errorf("Sent(%d) = %d, %v", at, to, ok)
		}
	}
	if h.Cap() != 0 || h.Used() != 0 || len(h.All()) != 0 || len(h.Raw()) != 0 {
		t.Errorf("Cap %d, Used %d, All %d, Raw %d", h.Cap(), h.Used(), h.All(), h.Raw())
	}
}

// P12.1 to P12.4: of nil; and of a heap that New did not make.
func TestNoHeap(t *testing.T) {
	holdNone(t, nil, api.ErrNil, api.ErrNil)
	holdNone(t, &heap.Heap{}, api.ErrFull, api.ErrRange)
	var h *heap.Heap
	for _, n := range []int{-1, 70000} {
		at, e := h.Thing(n, n)
		holds(t, "Thing of nil", at, e, 0, api.ErrNil)
		at, e = h.Array(n, n)
		holds(t, "Array of nil", at, e, 0, api.ErrNil)
		at, e = h.Text(n, "")
		holds(t, "Text of nil", at, e, 0, api.ErrNil)
	}
}

// P12.1, and rule 4 of the document: what is written into an answer is seen by no later one.
func TestAnswersOfTheirOwn(t *testing.T) {
	h := made(t, 30)
	h.Thing(1, 2)
	h.Thing(2, 2)
	raw, all := h.Raw(), h.All()
	wantRaw, wantAll := slices.Clone(raw), slices.Clone(all)
	clear(raw)
	clear(all)
	// Neither are answers changed by what is done later, nor by what is put behind another one.
	a, b := append(h.Raw(), 11), append(h.Raw(), 12)
	c, d := append(h.All(), 11), append(h.All(), 12)
	if a[6] != 11 || b[6] != 12 || c[2] != 11 || d[2] != 12 {
		t.Error("answers share memory")
	}
	if !slices.Equal(h.Raw(), wantRaw) || !slices.Equal(h.All(), wantAll) {
		t.Errorf("Raw = %d, All = %d", h.Raw(), h.All())
	}
	old, oldAll := h.Raw(), h.All()
	h.Set(1, 0, 99)
	h.Thing(3, 0)
	if !slices.Equal(old, wantRaw) || !slices.Equal(oldAll, wantAll) {
		t.Errorf("what was answered is %d, %d later", old, oldAll)
	}
}
