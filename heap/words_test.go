package heap_test

import (
	"encoding/binary"
	"math"
	"math/rand/v2"
	"slices"
	"testing"

	"hornbook/api"
	"hornbook/heap"
)

// thing is a thing of a model: its type, and what is behind its first word.
type thing struct {
	id     int
	behind []int64
	to     int64
}

// model is a heap by the chapter's words alone: things, one behind the other.
type model struct {
	most   int
	things []thing
}

// raw answers all words.
func (m *model) raw() []int64 {
	var l []int64
	for _, x := range m.things {
		l = append(append(l, int64(x.id*65536+len(x.behind))), x.behind...)
	}
	return l
}

// all answers all addresses.
func (m *model) all() []int64 {
	var l []int64
	at := int64(1)
	for _, x := range m.things {
		l = append(l, at)
		at += int64(1 + len(x.behind))
	}
	return l
}

// at answers the thing that has an address.
func (m *model) at(at int64) *thing {
	i := slices.Index(m.all(), at)
	if i < 0 {
		return nil
	}
	return &m.things[i]
}

// add works out anew what is answered when a thing is made.
func (m *model) add(id int, right bool, behind ...int64) (int64, api.Errno) {
	switch used := len(m.raw()); {
	case !right || id < 0 || id > 65535:
		return 0, api.ErrArg
	case used+1+len(behind) > m.most:
		return 0, api.ErrFull
	default:
		m.things = append(m.things, thing{id: id, behind: behind})
		return int64(used + 1), api.OK
	}
}

// textWords answers what is behind the first word of a text.
func textWords(s string) []int64 {
	l := []int64{int64(len(s))}
	for b := []byte(s); len(b) > 0; b = b[min(8, len(b)):] {
		var eight [8]byte
		copy(eight[:], b)
		l = append(l, int64(binary.LittleEndian.Uint64(eight[:])))
	}
	return l
}

// bytes works out anew what Bytes answers.
func (x *thing) bytes() (string, api.Errno) {
	if len(x.behind) == 0 {
		return "", api.ErrForm
	}
	var b []byte
	for _, v := range x.behind[1:] {
		b = binary.LittleEndian.AppendUint64(b, uint64(v))
	}
	n := x.behind[0]
	if n > int64(len(b)) || n <= int64(len(b))-8 || n < 0 {
		return "", api.ErrForm
	}
	return string(b[:n]), api.OK
}

// holdThing holds all that is answered of an address.
func holdThing(t *testing.T, h *heap.Heap, at int64, x *thing) {
	t.Helper()
	e, lenE := api.OK, api.OK
	want, size, length, bytes := thing{}, 0, 0, ""
	bytesE := api.ErrRange
	if x == nil {
		e, lenE = api.ErrRange, api.ErrRange
	} else {
		want, size = *x, len(x.behind)
		bytes, bytesE = x.bytes()
		lenE = api.ErrForm
		if size > 0 {
			length, lenE = int(x.behind[0]), api.OK
		}
	}
	if id, f := h.Type(at); id != want.id || f != e {
		t.Errorf("Type(%d) = %d, error %d, want %d, error %d", at, id, f, want.id, e)
	}
	if n, f := h.Size(at); n != size || f != e {
		t.Errorf("Size(%d) = %d, error %d, want %d, error %d", at, n, f, size, e)
	}
	if n, f := h.Len(at); n != length || f != lenE {
		t.Errorf("Len(%d) = %d, error %d, want %d, error %d", at, n, f, length, lenE)
	}
	if s, f := h.Bytes(at); s != bytes || f != bytesE {
		t.Errorf("Bytes(%d) = %q, error %d, want %q, error %d", at, s, f, bytes, bytesE)
	}
	if to, ok := h.Sent(at); to != want.to || ok != (want.to != 0) {
		t.Errorf("Sent(%d) = %d, %v, want %d", at, to, ok, want.to)
	}
	for i := -1; i <= size; i++ {
		v, f := h.Get(at, i)
		switch {
		case i >= 0 && i < size && (v != x.behind[i] || f != api.OK):
			t.Errorf("Get(%d, %d) = %d, error %d, want %d", at, i, v, f, x.behind[i])
		case (i < 0 || i >= size) && (v != 0 || f != api.ErrRange):
			t.Errorf("Get(%d, %d) = %d, error %d, where there is none", at, i, v, f)
		}
	}
}

// holdHeap holds all that P12.1, P12.3, P12.4 and P12.6 say of a heap.
func holdHeap(t *testing.T, h *heap.Heap, m *model) {
	t.Helper()
	raw, all := m.raw(), m.all()
	if h.Cap() != m.most || h.Used() != len(raw) {
		t.Errorf("Cap %d, Used %d, want %d, %d", h.Cap(), h.Used(), m.most, len(raw))
	}
	if got := h.Raw(); !slices.Equal(got, raw) {
		t.Errorf("Raw = %d, want %d", got, raw)
	}
	if got := h.All(); !slices.Equal(got, all) {
		t.Errorf("All = %d, want %d", got, all)
	}
	for at := int64(-1); at <= int64(m.most+1); at++ {
		holdThing(t, h, at, m.at(at))
	}
}

// number answers a number that is an edge, or small.
func number(pick *rand.Rand) int64 {
	edges := []int64{math.MinInt64, math.MaxInt64, -1, 0, 1, 65535, 65536, 4095, 4096, 4097}
	if pick.IntN(3) == 0 {
		return edges[pick.IntN(len(edges))]
	}
	return int64(pick.IntN(24))
}

// text answers any bytes.
func text(pick *rand.Rand) string {
	b := make([]byte, pick.IntN(27))
	for i := range b {
		b[i] = byte(pick.IntN(256))
	}
	return string(b)
}

// act does one thing to a heap and to its model, and holds that the answers are alike.
func act(t *testing.T, h *heap.Heap, m *model, pick *rand.Rand) {
	t.Helper()
	id, n, at := int(number(pick)), int(number(pick)), number(pick)
	if all := m.all(); len(all) > 0 && pick.IntN(3) > 0 {
		at = all[pick.IntN(len(all))]
	}
	x := m.at(at)
	switch pick.IntN(6) {
	case 0:
		got, e := h.Thing(id, n)
		right := n >= 0 && n <= 4096
		want, f := m.add(id, right, make([]int64, max(0, min(n, 4096)))...)
		holds(t, "Thing", got, e, want, f)
	case 1:
		got, e := h.Array(id, n)
		right := n >= 0 && n <= 4095
		behind := make([]int64, 1+max(0, min(n, 4096)))
		behind[0] = int64(n)
		want, f := m.add(id, right, behind...)
		holds(t, "Array", got, e, want, f)
	case 2:
		s := text(pick)
		got, e := h.Text(id, s)
		want, f := m.add(id, true, textWords(s)...)
		holds(t, "Text", got, e, want, f)
	case 3, 4:
		v, want := number(pick), api.ErrRange
		if x != nil && n >= 0 && n < len(x.behind) {
			x.behind[n], want = v, api.OK
		}
		holds(t, "Set", 0, h.Set(at, n, v), 0, want)
	default:
		to, want := number(pick), api.OK
		switch {
		case x == nil:
			want = api.ErrRange
		case to < 1:
			want = api.ErrArg
		case x.to != 0:
			want = api.ErrState
		default:
			x.to = to
		}
		holds(t, "Send", 0, h.Send(at, to), 0, want)
	}
}

// P12.1 to P12.6: whatever is done, one after another.
func TestRandomHeaps(t *testing.T) {
	pick := rand.New(rand.NewPCG(6, 12))
	full, sent := 0, 0
	for range 300 {
		most := 16 + pick.IntN(50)
		h, m := made(t, most), &model{most: most}
		for range 40 {
			act(t, h, m, pick)
			holdHeap(t, h, m)
			if t.Failed() {
				t.Fatalf("of the heap %d", m.raw())
			}
		}
		if len(m.raw()) > most-3 {
			full++
		}
		for _, x := range m.things {
			if x.to != 0 {
				sent++
			}
		}
	}
	if full < 30 || sent < 100 {
		t.Errorf("%d were full, %d things were sent", full, sent)
	}
}

// P12.5: heaps beside each other know nothing of each other.
func TestHeapsBesideEachOther(t *testing.T) {
	pick := rand.New(rand.NewPCG(6, 13))
	heaps, models := []*heap.Heap{}, []*model{}
	for range 4 {
		heaps, models = append(heaps, made(t, 40)), append(models, &model{most: 40})
	}
	for range 400 {
		i := pick.IntN(4)
		act(t, heaps[i], models[i], pick)
		for i, h := range heaps {
			holdHeap(t, h, models[i])
		}
		if t.Failed() {
			t.FailNow()
		}
	}
}

// P12.2, P12.3: a text is got as it was put, in as many words as its bytes take.
func FuzzText(f *testing.F) {
	f.Add("", 0, 16)
	f.Add("hi", 3, 16)
	f.Add("\xff\xfe\xfd\xfc\xfb\xfa\xf9\xf8\x80", 65535, 20)
	f.Add("much more than there is room for in a heap of so few words, whatever is done", 1, 16)
	f.Fuzz(func(t *testing.T, s string, id, words int) {
		h, e := heap.New(words)
		if (e == api.OK) != (words >= 16 && words <= 4096) {
			t.Fatalf("New(%d): error %d", words, e)
		}
		if e != api.OK {
			return
		}
		m := &model{most: words}
		for range 2 {
			at, e := h.Text(id, s)
			want, f := m.add(id, true, textWords(s)...)
			holds(t, "Text", at, e, want, f)
			holdHeap(t, h, m)
		}
	})
}
