package collect_test

import (
	"math"
	"slices"
	"testing"

	"hornbook/api"
	"hornbook/collect"
	"hornbook/heap"
	"hornbook/link"
	"hornbook/table"
)

// world is a heap, and the program whose things it has.
type world struct {
	*heap.Heap
	t testing.TB
	p *link.Prog
}

// classes answers B below A, C without fields, and D all of whose fields are of things.
func classes() []api.Class {
	return []api.Class{
		{Name: "B", Super: "A", Fields: []api.Field{{Name: "n", Desc: "I"}, {Name: "s", Desc: "S"}, {Name: "ok", Desc: "B"}, {Name: "l", Desc: "[I"}}},
		{Name: "A", Super: "Object", Fields: []api.Field{{Name: "y", Desc: "LA;"}, {Name: "x", Desc: "I"}}},
		{Name: "C", Super: "DivExc"},
		{Name: "D", Super: "C", Fields: []api.Field{{Name: "a", Desc: "LA;"}, {Name: "b", Desc: "LObject;"}, {Name: "c", Desc: "[[S"}}},
	}
}

// progOf answers a program of classes.
func progOf(t testing.TB, l ...api.Class) *link.Prog {
	t.Helper()
	x, name, e := table.New(l...)
	if e != api.OK {
		t.Fatalf("table.New = %q, error %d", name, e)
	}
	p, e := link.New(x, link.NewTypes())
	if e != api.OK {
		t.Fatalf("link.New: error %d", e)
	}
	return p
}

// heapOf answers a heap of so many words.
func heapOf(t testing.TB, words int) *heap.Heap {
	t.Helper()
	h, e := heap.New(words)
	if e != api.OK {
		t.Fatalf("heap.New(%d): error %d", words, e)
	}
	return h
}

// made answers an empty heap, and the program of classes.
func made(t testing.TB, words int) world {
	t.Helper()
	return world{heapOf(t, words), t, progOf(t, classes()...)}
}

// add makes a thing of a type with these words.
func (w world) add(d string, words ...int64) int64 {
	w.t.Helper()
	at, e := w.Thing(w.p.Id(d), len(words))
	if e != api.OK {
		w.t.Fatalf("Thing of %q: error %d", d, e)
	}
	w.set(at, words...)
	return at
}

// set writes a thing's words.
func (w world) set(at int64, words ...int64) {
	w.t.Helper()
	for i, v := range words {
		if e := w.Set(at, i, v); e != api.OK {
			w.t.Fatalf("Set(%d, %d): error %d", at, i, e)
		}
	}
}

// array makes an array of a type with these elements.
func (w world) array(d string, elements ...int64) int64 {
	w.t.Helper()
	return w.add(d, append([]int64{int64(len(elements))}, elements...)...)
}

// text makes a text.
func (w world) text(s string) int64 {
	w.t.Helper()
	at, e := w.Text(w.p.Id("S"), s)
	if e != api.OK {
		w.t.Fatalf("Text(%q): error %d", s, e)
	}
	return at
}

// sends answers of all things where they were sent.
func sends(h *heap.Heap) []int64 {
	var l []int64
	for _, at := range h.All() {
		to, _ := h.Sent(at)
		l = append(l, to)
	}
	return l
}

// reaches holds what Reach answers, and that it changes nothing.
func (w world) reaches(roots []int64, want []int64, wantE api.Errno) {
	w.t.Helper()
	raw, sent, asked := w.Raw(), sends(w.Heap), slices.Clone(roots)
	got, e := collect.Reach(w.Heap, w.p, roots...)
	if !slices.Equal(got, want) || e != wantE {
		w.t.Errorf("Reach of %d = %d, error %d, want %d, error %d", roots, got, e, want, wantE)
	}
	if !slices.Equal(w.Raw(), raw) || !slices.Equal(sends(w.Heap), sent) || !slices.Equal(roots, asked) {
		w.t.Errorf("Reach of %d changes something", asked)
	}
}

// live holds what Live answers.
func (w world) live(want int, wantE api.Errno, roots ...int64) {
	w.t.Helper()
	if n, e := collect.Live(w.Heap, w.p, roots...); n != want || e != wantE {
		w.t.Errorf("Live of %d = %d, error %d, want %d, error %d", roots, n, e, want, wantE)
	}
}

// run answers what Run does, that can not fail.
func (w world) run(roots ...int64) (world, []int64) {
	w.t.Helper()
	g, now, e := collect.Run(w.Heap, w.p, roots...)
	if g == nil || e != api.OK {
		w.t.Fatalf("Run of %d = %v, error %d", roots, g != nil, e)
	}
	return world{g, w.t, w.p}, now
}

// refused holds that Run answers an error and nothing else, and changes nothing.
func (w world) refused(want api.Errno, roots ...int64) {
	w.t.Helper()
	raw, sent := w.Raw(), sends(w.Heap)
	if g, now, e := collect.Run(w.Heap, w.p, roots...); g != nil || len(now) != 0 || e != want {
		w.t.Errorf("Run of %d = %v, %d, error %d, want error %d", roots, g != nil, now, e, want)
	}
	if !slices.Equal(w.Raw(), raw) || !slices.Equal(sends(w.Heap), sent) {
		w.t.Errorf("Run of %d, refused, changes something", roots)
	}
}

// The chapter's example.
func TestExample(t *testing.T) {
	w := made(t, 100)
	w.add("LA;", 0, 7)
	one, other := w.add("LA;", 0, 5), w.add("LA;", 0, 6)
	w.set(one, other)
	w.set(other, one)
	w.live(6, api.OK, one)
	g, now := w.run(one)
	if !slices.Equal(now, []int64{1}) || !slices.Equal(g.All(), []int64{1, 4}) || !slices.Equal(sends(w.Heap), []int64{0, 1, 4}) {
		t.Errorf("Run: now %d, All %d, sent %d", now, g.All(), sends(w.Heap))
	}
	id := int64(w.p.Id("LA;"))
	if want := []int64{id*65536 + 2, 4, 5, id*65536 + 2, 1, 6}; !slices.Equal(g.Raw(), want) {
		t.Errorf("Run: Raw %d, want %d", g.Raw(), want)
	}
}

// P13.1: which words are of things, by the thing's type.
func TestRefs(t *testing.T) {
	for _, x := range []struct {
		d    string
		size int
		want []int
	}{
		{"LA;", 2, []int{0}},
		{"LB;", 6, []int{0, 3, 5}},
		{"LC;", 0, nil},
		{"LD;", 3, []int{0, 1, 2}},
		{"LObject;", 0, nil},
		{"LMemExc;", 0, nil},
		{"[LA;", 1, nil},
		{"[LA;", 2, []int{1}},
		{"[LA;", 5, []int{1, 2, 3, 4}},
		{"[LObject;", 3, []int{1, 2}},
		{"[S", 3, []int{1, 2}},
		{"[[I", 3, []int{1, 2}},
		{"[[[[B", 3, []int{1, 2}},
		{"[I", 5, nil},
		{"[B", 5, nil},
		{"S", 1, nil},
		{"S", 4, nil},
		// An array or a text that has not even a word that says how many.
		{"[LA;", 0, nil},
		{"[I", 0, nil},
		{"S", 0, nil},
	} {
		w := made(t, 16)
		w.add("LC;")
		at := w.add(x.d, make([]int64, x.size)...)
		if got, e := collect.Refs(w.Heap, w.p, at); !slices.Equal(got, x.want) || e != api.OK {
			t.Errorf("Refs of %q of %d words = %d, error %d, want %d", x.d, x.size, got, e, x.want)
		}
	}
}

// P13.1: the places hang on how many words an array has, and not on what is written in them.
func TestRefsWhateverIsWritten(t *testing.T) {
	for _, n := range []int64{math.MinInt64, -1, 0, 1, 2, 3, 4, 5, 4096, math.MaxInt64} {
		w := made(t, 40)
		at := w.add("[LA;", n, -3, 77, n)
		if got, e := collect.Refs(w.Heap, w.p, at); !slices.Equal(got, []int{1, 2, 3}) || e != api.OK {
			t.Errorf("Refs of an array that says %d = %d, error %d", n, got, e)
		}
		at = w.add("LA;", n, n)
		if got, e := collect.Refs(w.Heap, w.p, at); !slices.Equal(got, []int{0}) || e != api.OK {
			t.Errorf("Refs of a thing with %d = %d, error %d", n, got, e)
		}
		at = w.add("S", n, n)
		if got, e := collect.Refs(w.Heap, w.p, at); len(got) != 0 || e != api.OK {
			t.Errorf("Refs of a text that says %d = %d, error %d", n, got, e)
		}
	}
}

// P13.1: the greatest array has as many places as elements.
func TestRefsOfTheGreatest(t *testing.T) {
	w := made(t, api.MaxHeap)
	at := w.add("[LA;", make([]int64, api.MaxHeap-1)...)
	got, e := collect.Refs(w.Heap, w.p, at)
	if len(got) != api.MaxHeap-2 || e != api.OK {
		t.Fatalf("%d places, error %d", len(got), e)
	}
	for i, place := range got {
		if place != 1+i {
			t.Fatalf("the place %d is %d", i, place)
		}
	}
	w.live(api.MaxHeap, api.OK, at)
}

// P13.1: things that there are not, and things that can not be.
func TestRefsRefused(t *testing.T) {
	w := made(t, 60)
	at := w.add("LA;", 0, 0)
	for _, x := range []int64{math.MinInt64, -1, 0, at + 1, at + 2, at + 3, 60, math.MaxInt64} {
		if got, e := collect.Refs(w.Heap, w.p, x); len(got) != 0 || e != api.ErrRange {
			t.Errorf("Refs(%d) = %d, error %d", x, got, e)
		}
	}
	for _, d := range []string{"I", "B", "N", "V", "", "LZ;", "[LZ;", "[N", "[[[[[I", "A", "(LA;)V"} {
		at := w.add(d, 0, 0)
		if got, e := collect.Refs(w.Heap, w.p, at); len(got) != 0 || e != api.ErrForm {
			t.Errorf("Refs of %q = %d, error %d", d, got, e)
		}
	}
	if at, e := w.Thing(9999, 0); e != api.OK {
		t.Errorf("Thing: error %d", e)
	} else if got, e := collect.Refs(w.Heap, w.p, at); len(got) != 0 || e != api.ErrForm {
		t.Errorf("Refs of a type without a name = %d, error %d", got, e)
	}
}

// P13.1: a class's things have just as many words as their Shape.
func TestRefsOfAnotherSize(t *testing.T) {
	for d, right := range map[string]int{"LA;": 2, "LB;": 6, "LC;": 0, "LD;": 3, "LObject;": 0} {
		for size := range 9 {
			w := made(t, 16)
			at := w.add(d, make([]int64, size)...)
			want := api.ErrForm
			if size == right {
				want = api.OK
			}
			if _, e := collect.Refs(w.Heap, w.p, at); e != want {
				t.Errorf("Refs of %q of %d words: error %d, want %d", d, size, e, want)
			}
		}
	}
}

// P13.2: first the roots, each once, in order; then what each one's words are, place by place.
func TestReachInOrder(t *testing.T) {
	w := made(t, 100)
	lost := w.add("LC;")
	a, b, c, d, e := w.add("LC;"), w.add("LC;"), w.add("LC;"), w.add("LC;"), w.add("LC;")
	low := w.array("[LObject;", e, 0, d, e)
	high := w.array("[LObject;", c, low, b)
	top := w.array("[LObject;", high, a)
	w.reaches([]int64{top}, []int64{top, high, a, c, low, b, e, d}, api.OK)
	w.reaches([]int64{low, top}, []int64{low, top, e, d, high, a, c, b}, api.OK)
	w.reaches([]int64{0, e, 0, top, e, top, 0}, []int64{e, top, high, a, c, low, b, d}, api.OK)
	w.reaches([]int64{b, a, d}, []int64{b, a, d}, api.OK)
	w.reaches([]int64{0, 0}, nil, api.OK)
	w.reaches([]int64{}, nil, api.OK)
	w.reaches(nil, nil, api.OK)
	w.reaches(w.All(), w.All(), api.OK)
	w.live(4+5+6+5, api.OK, top, e)
	w.live(1, api.OK, lost, 0, lost)
	w.live(0, api.OK)
	w.live(0, api.OK, 0)
	w.live(w.Used(), api.OK, w.All()...)
}

// P13.2: what words of numbers, truths and texts say is no address, whatever it is.
func TestReachNotByNumbers(t *testing.T) {
	w := made(t, 100)
	lost := w.add("LC;")
	l := w.array("[I", lost, -1, 99)
	s := w.text("\x01\x00\x00\x00\x00\x00\x00\x00")
	b := w.add("LB;", 0, lost, lost, s, lost, l)
	w.reaches([]int64{b}, []int64{b, s, l}, api.OK)
	ok := w.array("[B", lost, 0)
	w.reaches([]int64{ok}, []int64{ok}, api.OK)
	many := w.array("[[I", l, l, 0)
	w.set(many, lost)
	w.reaches([]int64{many}, []int64{many, l}, api.OK)
}

// P13.2: things that can be come to from themselves are come to once.
func TestReachRounds(t *testing.T) {
	w := made(t, api.MaxHeap)
	me := w.add("LA;", 1, 0)
	w.reaches([]int64{me}, []int64{me}, api.OK)
	l := w.array("[LObject;", 0, me, 0)
	w.set(l, 3, l, me, l)
	w.reaches([]int64{l, me}, []int64{l, me}, api.OK)
	// A long chain, whose last one is bound to its first one.
	first := w.add("LA;", 0, 0)
	last := first
	for range 1000 {
		last = w.add("LA;", last, 0)
	}
	w.set(first, last)
	if got, e := collect.Reach(w.Heap, w.p, first); len(got) != 1001 || e != api.OK || got[1] != last || got[1000] != first+3 {
		t.Errorf("Reach of a chain = %d, error %d", got, e)
	}
	w.live(3003, api.OK, last)
}

// P13.2: of each address, as it is come to, ErrRange; of each thing, as its turn comes, Refs' error.
func TestReachRefused(t *testing.T) {
	w := made(t, 200)
	good := w.add("LC;")
	none := good + 1000
	torn := w.add("LC;", 5)
	typeless := w.add("I")
	wrong := w.add("LA;", none, 0)
	inside := w.add("LA;", wrong+1, 0)
	below := w.add("LA;", -1, 0)
	toTorn := w.array("[LC;", good, torn)
	toWrong := w.array("[LA;", wrong)
	for _, x := range []struct {
		roots []int64
		want  api.Errno
	}{
		{[]int64{none}, api.ErrRange},
		{[]int64{math.MinInt64}, api.ErrRange},
		{[]int64{good, 0, wrong + 2}, api.ErrRange},
		{[]int64{wrong}, api.ErrRange},
		{[]int64{inside}, api.ErrRange},
		{[]int64{below}, api.ErrRange},
		{[]int64{toWrong}, api.ErrRange},
		{[]int64{torn}, api.ErrForm},
		{[]int64{typeless}, api.ErrForm},
		{[]int64{good, toTorn}, api.ErrForm},
		// All roots are come to ahead of what things have.
		{[]int64{torn, none}, api.ErrRange},
		{[]int64{none, torn}, api.ErrRange},
		{[]int64{toTorn, none}, api.ErrRange},
		// Of things the one that is come to first.
		{[]int64{torn, wrong}, api.ErrForm},
		{[]int64{wrong, torn}, api.ErrRange},
		{[]int64{toTorn, wrong}, api.ErrRange},
		{[]int64{toWrong, torn}, api.ErrForm},
		{[]int64{toTorn, toWrong}, api.ErrForm},
		{[]int64{toWrong, toTorn}, api.ErrRange},
		{[]int64{good, good}, api.OK},
	} {
		got, e := collect.Reach(w.Heap, w.p, x.roots...)
		if e != x.want || (e != api.OK && len(got) != 0) {
			t.Errorf("Reach of %d = %d, error %d, want %d", x.roots, got, e, x.want)
		}
		if x.want != api.OK {
			w.live(0, x.want, x.roots...)
			w.refused(x.want, x.roots...)
		}
	}
	// What can not be come to does no harm.
	w.reaches([]int64{good}, []int64{good}, api.OK)
	if g, _ := w.run(good); g.Used() != 1 {
		t.Errorf("Run: Used %d", g.Used())
	}
}

// P13.2, P13.4: a heap of as many words, with a copy of each thing; the old one is as it was, but that these are sent.
func TestRun(t *testing.T) {
	w := made(t, 77)
	w.add("LA;", 0, 1)
	s := w.text("of more than eight bytes")
	l := w.array("[I", -1, math.MinInt64, s)
	w.text("lost")
	b := w.add("LB;", 0, math.MaxInt64, -5, s, 1, l)
	w.set(b, b)
	all := w.array("[LA;", 0, b, 0)
	raw := w.Raw()
	g, now := w.run(l, 0, all, l)
	if !slices.Equal(w.Raw(), raw) || !slices.Equal(sends(w.Heap), []int64{0, 18, 1, 0, 11, 6}) {
		t.Errorf("the old heap: Raw %d, sent %d", w.Raw(), sends(w.Heap))
	}
	first := func(d string, size int) int64 { return int64(w.p.Id(d)*65536 + size) }
	want := slices.Concat(
		[]int64{first("[I", 4), 3, -1, math.MinInt64, s},
		[]int64{first("[LA;", 4), 3, 0, 11, 0},
		[]int64{first("LB;", 6), 11, math.MaxInt64, -5, 18, 1, 1},
		raw[s-1:s+4])
	if !slices.Equal(g.Raw(), want) || !slices.Equal(g.All(), []int64{1, 6, 11, 18}) {
		t.Errorf("Run: Raw %d, want %d; All %d", g.Raw(), want, g.All())
	}
	if !slices.Equal(now, []int64{1, 0, 6, 1}) || g.Cap() != 77 || slices.Max(sends(g.Heap)) != 0 {
		t.Errorf("Run: now %d, Cap %d, sent %d", now, g.Cap(), sends(g.Heap))
	}
	// The heaps know nothing of each other.
	w.set(b, 0, 0)
	g.set(1, 0, 0)
	if v, e := g.Get(11, 1); v != math.MaxInt64 || e != api.OK {
		t.Errorf("Get = %d, error %d, behind a write into the old heap", v, e)
	}
	if v, e := w.Get(l, 1); v != -1 || e != api.OK {
		t.Errorf("Get = %d, error %d, behind a write into the new heap", v, e)
	}
}

// P13.2: of no roots, and of no things, there is nothing in the new heap.
func TestRunOfNothing(t *testing.T) {
	for _, roots := range [][]int64{nil, {}, {0}, {0, 0, 0}} {
		for _, things := range []int{0, 3} {
			w := made(t, 16)
			for range things {
				w.add("LA;", 0, 0)
			}
			g, now := w.run(roots...)
			if g.Used() != 0 || g.Cap() != 16 || !slices.Equal(now, roots) {
				t.Errorf("Run of %d: Used %d, Cap %d, now %d", roots, g.Used(), g.Cap(), now)
			}
			if slices.ContainsFunc(sends(w.Heap), func(to int64) bool { return to != 0 }) {
				t.Errorf("Run of %d: sent %d", roots, sends(w.Heap))
			}
		}
	}
}

// P13.2: what is left behind makes room, and what is full stays full.
func TestRunMakesRoom(t *testing.T) {
	w := made(t, 16)
	for range 5 {
		w.add("LA;", 0, 0)
	}
	w.add("LC;")
	if _, e := w.Thing(0, 0); e != api.ErrFull {
		t.Fatalf("Thing in a full heap: error %d", e)
	}
	g, now := w.run(w.All()...)
	if !slices.Equal(now, w.All()) || !slices.Equal(g.Raw(), w.Raw()) {
		t.Errorf("Run of all: now %d, Raw %d, want %d, %d", now, g.Raw(), w.All(), w.Raw())
	}
	if _, e := g.Thing(0, 0); e != api.ErrFull {
		t.Errorf("Thing in a full heap: error %d", e)
	}
	k, now := g.run(4, 16)
	if !slices.Equal(now, []int64{1, 4}) || k.Used() != 4 {
		t.Errorf("Run of two: now %d, Used %d", now, k.Used())
	}
	if _, e := k.Thing(0, 12); e != api.ErrFull {
		t.Errorf("Thing of a word too many: error %d", e)
	}
	if at, e := k.Thing(0, 11); at != 5 || e != api.OK {
		t.Errorf("Thing of all that is left = %d, error %d", at, e)
	}
}

// P13.2: ErrState, if one of the things was sent already, behind Reach's error; what can not be come to may be sent.
func TestRunOfWhatWasSent(t *testing.T) {
	w := made(t, 100)
	a := w.add("LA;", 0, 0)
	b := w.add("LA;", a, 0)
	c := w.add("LA;", b, 0)
	torn := w.add("LA;")
	if e := w.Send(b, 50); e != api.OK {
		t.Fatalf("Send: error %d", e)
	}
	w.refused(api.ErrState, b)
	w.refused(api.ErrState, a, c)
	w.refused(api.ErrState, c)
	w.refused(api.ErrForm, b, torn)
	w.refused(api.ErrRange, b, 2)
	w.reaches([]int64{c}, []int64{c, b, a}, api.OK)
	w.live(9, api.OK, c)
	g, now := w.run(a)
	if !slices.Equal(now, []int64{1}) || g.Used() != 3 || !slices.Equal(sends(w.Heap), []int64{1, 50, 0, 0}) {
		t.Errorf("Run: now %d, Used %d, sent %d", now, g.Used(), sends(w.Heap))
	}
	w.refused(api.ErrState, a)
	w.refused(api.ErrState, 0, a)
	w.run(0)
	w.run()
	// Where they are now they were not sent.
	g.run(now...)
}

// P13.1, P13.2: of nil ErrNil, whatever else there is.
func TestNil(t *testing.T) {
	w := made(t, 20)
	at := w.add("LA;", 0, 0)
	for _, x := range []struct {
		h *heap.Heap
		p *link.Prog
	}{{nil, nil}, {w.Heap, nil}, {nil, w.p}} {
		for _, roots := range [][]int64{nil, {at}, {0}, {-1}} {
			if l, e := collect.Reach(x.h, x.p, roots...); len(l) != 0 || e != api.ErrNil {
				t.Errorf("Reach of nil = %d, error %d", l, e)
			}
			if n, e := collect.Live(x.h, x.p, roots...); n != 0 || e != api.ErrNil {
				t.Errorf("Live of nil = %d, error %d", n, e)
			}
			if g, now, e := collect.Run(x.h, x.p, roots...); g != nil || len(now) != 0 || e != api.ErrNil {
				t.Errorf("Run of nil = %v, %d, error %d", g != nil, now, e)
			}
		}
		for _, at := range []int64{at, 0, -1, 99} {
			if l, e := collect.Refs(x.h, x.p, at); len(l) != 0 || e != api.ErrNil {
				t.Errorf("Refs of nil = %d, error %d", l, e)
			}
		}
	}
	if !slices.Equal(sends(w.Heap), []int64{0}) {
		t.Error("a call with nil sent something")
	}
}

// P13.1, P13.2: heaps and programs that nobody made have nothing.
func TestThatNobodyMade(t *testing.T) {
	w := made(t, 20)
	at := w.add("LA;", 0, 0)
	bare := world{&heap.Heap{}, t, w.p}
	bare.reaches([]int64{0}, nil, api.OK)
	bare.reaches([]int64{1}, nil, api.ErrRange)
	bare.live(0, api.OK, 0)
	bare.refused(api.ErrRange, 0, 1)
	if g, now := bare.run(0); g.Cap() != 0 || g.Used() != 0 || !slices.Equal(now, []int64{0}) {
		t.Errorf("Run: Cap %d, Used %d, now %d", g.Cap(), g.Used(), now)
	}
	typeless := world{w.Heap, t, &link.Prog{}}
	typeless.reaches([]int64{at}, nil, api.ErrForm)
	typeless.reaches([]int64{at + 1}, nil, api.ErrRange)
	typeless.refused(api.ErrForm, at)
	typeless.live(0, api.OK, 0)
}

// P13.1, P13.2: another program with the same types' numbers says of the same things what it knows of them.
func TestOfAnotherProgram(t *testing.T) {
	w := made(t, 40)
	at := w.add("LA;", 0, 0)
	other, name, e := table.New(api.Class{Name: "A", Super: "Object", Fields: []api.Field{{Name: "x", Desc: "I"}, {Name: "y", Desc: "LA;"}}})
	if e != api.OK {
		t.Fatalf("table.New = %q, error %d", name, e)
	}
	p, e := link.New(other, w.p.Types())
	if e != api.OK {
		t.Fatalf("link.New: error %d", e)
	}
	if l, e := collect.Refs(w.Heap, p, at); !slices.Equal(l, []int{1}) || e != api.OK {
		t.Errorf("Refs = %d, error %d", l, e)
	}
	if l, e := collect.Refs(w.Heap, p, w.add("LB;", 0, 0, 0, 0, 0, 0)); len(l) != 0 || e != api.ErrForm {
		t.Errorf("Refs of a class that is not there = %d, error %d", l, e)
	}
}

// Rules 4 and 5 of the document: answers are new memory, and roots are not kept.
func TestAnswersOfTheirOwn(t *testing.T) {
	w := made(t, 60)
	a := w.add("LD;", 0, 0, 0)
	l := w.array("[LD;", a, a)
	for range 3 {
		for _, at := range []int64{a, l} {
			got, _ := collect.Refs(w.Heap, w.p, at)
			for i := range got {
				got[i] = 77
			}
			_ = append(got, 78)
		}
		got, _ := collect.Reach(w.Heap, w.p, l)
		got[0], got[1] = 79, 80
		_ = append(got, 81)
	}
	if got, e := collect.Refs(w.Heap, w.p, a); !slices.Equal(got, []int{0, 1, 2}) || e != api.OK {
		t.Errorf("Refs = %d, error %d", got, e)
	}
	if got, e := collect.Refs(w.Heap, w.p, l); !slices.Equal(got, []int{1, 2}) || e != api.OK {
		t.Errorf("Refs = %d, error %d", got, e)
	}
	w.reaches([]int64{l}, []int64{l, a}, api.OK)
	roots := make([]int64, 2, 9)
	roots[0], roots[1] = l, a
	g, now := w.run(roots...)
	if !slices.Equal(roots, []int64{l, a}) || !slices.Equal(now, []int64{1, 5}) {
		t.Errorf("Run: roots %d, now %d", roots, now)
	}
	roots[0], now[1] = 0, 0
	g.reaches([]int64{1}, []int64{1, 5}, api.OK)
}
