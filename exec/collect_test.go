package exec_test

import (
	"math"
	"slices"
	"strconv"
	"testing"

	"hornbook/api"
	"hornbook/asm"
	"hornbook/collect"
	"hornbook/exec"
	"hornbook/heap"
	"hornbook/link"
)

// P17.3: there is room just if what can be come to and the thing take no more words than the heap has.
func TestRoom(t *testing.T) {
	for _, x := range []struct {
		code string
		// The least heap in which nothing is thrown.
		words int
	}{
		{"int 7, arr [I, pop", 17},
		{"int 10, arr [I, pop", 20},
		{"int 256, arr [I, pop", 266},
		{"new LB;, pop, new LB;, pop, new LA;, store 1, new LA;, store 1, new LA;, pop", 18},
		{"new LB;, store 1, new LB;, store 2", 22},
		{"new LB;, store 1, null, store 1, new LB;, store 2, new LNone;, pop", 16},
		{"str 12345678, str 12345678, pop, pop, str 12345678, store 1, str 123456789, pop", 16},
		// What is put together is there, till it is done.
		{"str 12345678, str 12345678, join, pop", 18},
		{"str 12345678, str 123456789, join, pop", 8 + 3 + 4 + 5},
		{"str , str , join, str , join, str , join, pop", 16},
		{"str , str a, join, dup, join, dup, join, dup, join, dup, join, pop", 8 + 3 + 4},
		{"int 3, arr [LA;, dup, int 0, new LA;, astore, dup, int 1, new LA;, astore, dup, int 0, null, astore, int 2, new LA;, astore", 8 + 5 + 10},
		{"@a int 2, arr [LObject;, store 1, int 2, arr [LObject;, dup, int 0, load 1, astore, store 1, @b null, store 1, int 4, arr [I, pop", 16},
		// What a thread that is Done had can not be come to.
		{"new LB;, spawn, int 3, arr [I, pop", 8 + 7 + 5},
	} {
		for words := 16; words < x.words+20; words++ {
			w := ran(t, words, 3, x.code+", retv")
			want := ""
			if words < x.words {
				want = "MemExc"
			}
			w.stands(0, exec.Done, want)
		}
	}
}

// Example 5 of the document: a loop that makes arrays in a small heap goes on; one that holds them all does not.
func TestLoopsThatMakeThings(t *testing.T) {
	w := begun(t, 16, mainOf(2, "@a int 6, arr [I, pop, jump @a"))
	for range 500 {
		w.steps(0, "rrrp")
	}
	w = begun(t, 400, mainOf(2, "null, cast [LObject;, store 1, @a int 1, arr [LObject;, dup, int 0, load 1, astore, store 1, jump @a"))
	w.over(0)
	w.stands(0, exec.Done, "MemExc")
	w = begun(t, 20, mainOf(2, "@a int 6, arr [I, store 1, jump @b, @b int 6, arr [I, store 1, jump @a, @h pop, int 1, print, retv", "@a @b @h MemExc", "@b @h @h MemExc"))
	w.over(0)
	w.wrote("1")
}

// P17.4: Collect has all go that can not be come to; all else is as it was, at other addresses.
func TestCollect(t *testing.T) {
	w := begun(t, 100, mainOf(3, "new LB;, pop, new LA;, store 1, str ab, pop, load 1, str hi, putf A.s:S, load 1, load 1, putf A.next:LA;, int 2, arr [LA;, store 2, load 2, int 1, load 1, astore, load 2, int 1, aload, getf A.next:LA;, getf A.s:S, print, retv"))
	w.roots(1, 2, 3, 4, 5, 6, 7, 8)
	w.uses(8, 8)
	w.steps(0, "rr"+"rr"+"rr")
	w.roots(1, 2, 3, 4, 5, 6, 7, 8, 16)
	w.uses(8+7+5+3, 8+5)
	w.did("Collect", w.Collect(), api.OK)
	w.roots(1, 2, 3, 4, 5, 6, 7, 8, 9)
	w.uses(13, 13)
	w.steps(0, "rrr"+"rrr"+"rrr"+"rrrr")
	old := w.Heap()
	w.did("Collect", w.Collect(), api.OK)
	w.uses(13+3+4, 13+3+4)
	if w.Heap() == old || w.Heap().Cap() != 100 {
		t.Errorf("the heap is as it was, or has %d words", w.Heap().Cap())
	}
	raw := w.Heap().Raw()
	for range 3 {
		w.did("Collect", w.Collect(), api.OK)
		if !slices.Equal(w.Heap().Raw(), raw) {
			t.Errorf("collected again it is %d, want %d", w.Heap().Raw(), raw)
		}
	}
	w.steps(0, "rrrrrre")
	w.wrote("hi")
	w.uses(20, 7)
	w.did("Collect", w.Collect(), api.OK)
	w.uses(7, 7)
	w.roots(1, 2, 3, 4, 5, 6, 7)
}

// P17.4: what can be come to from where somebody wrote what is no address is refused, and nothing has changed.
func TestCollectRefused(t *testing.T) {
	for _, x := range []struct {
		spoil func(w world)
		want  api.Errno
	}{
		{func(w world) { w.Calls(0).Store(0, 99) }, api.ErrRange},
		{func(w world) { w.Calls(0).Store(0, -1) }, api.ErrRange},
		{func(w world) { w.Locks().Enter(50, 3) }, api.ErrRange},
		{func(w world) { w.Heap().Set(9, 1, 3000) }, api.ErrRange},
		{func(w world) { w.Heap().Send(1, 5) }, api.ErrState},
		{func(w world) { at, _ := w.Heap().Thing(500, 1); w.Calls(0).Store(0, at) }, api.ErrForm},
	} {
		w := begun(t, 17, mainOf(2, "new LA;, store 1, @a new LA;, pop, jump @a"))
		w.steps(0, "rr")
		w.did("Collect", w.Collect(), api.OK)
		x.spoil(w)
		h, roots, raw := w.Heap(), w.Roots(), w.Heap().Raw()
		w.did("Collect", w.Collect(), x.want)
		if w.Heap() != h || !slices.Equal(w.Heap().Raw(), raw) {
			t.Error("a refused Collect has changed the heap")
		}
		w.roots(roots...)
		if x.want != api.ErrState && w.Live() != 0 {
			t.Errorf("Live = %d", w.Live())
		}
		// Where nothing goes there is no room.
		w.over(0)
		w.stands(0, exec.Done, "MemExc")
	}
}

// P17.4: all addresses, in their order: what is held, and all calls', thread by thread.
func TestRoots(t *testing.T) {
	main := mainOf(3, "new LA;, store 1, load 1, enter, str s, load 1, int 4, load, call Main.low:()V, pop, pop, pop, retv").
		Method("low", "()V", 2, "new LB;, dup, enter, load, null, str t, true, pop, pop, pop, pop, retv")
	w := begun(t, 200, main)
	w.start("A", "run", 1, api.OK)
	w.start("Main", "low", 2, api.OK)
	w.roots(1, 2, 3, 4, 5, 6, 7, 8, 9, 14)
	w.steps(2, "rrr")
	w.steps(0, "rrrr")
	// The things: Main 8, A 9, Main 14, B 15, A 22, S 27, B 30.
	w.roots(1, 2, 3, 4, 5, 6, 7, 15, 22, 8, 22, 9, 14, 15)
	w.steps(0, "rrrr"+"p")
	w.steps(0, "rrrrrr")
	s, _ := w.Calls(0).Peek(0)
	w.roots(1, 2, 3, 4, 5, 6, 7, 15, 22, 30, 8, 22, 27, 22, 8, 30, 8, 0, s, 9, 14, 15)
	w.did("Exit", w.Locks().Exit(15, 2), api.OK)
	w.roots(1, 2, 3, 4, 5, 6, 7, 22, 30, 8, 22, 27, 22, 8, 30, 8, 0, s, 9, 14, 15)
	if n, e := collect.Live(w.Heap(), w.Prog(), w.Roots()...); n != w.Live() || e != api.OK {
		t.Errorf("Live = %d, want %d, error %d", w.Live(), n, e)
	}
	w.did("Collect", w.Collect(), api.OK)
	w.roots(1, 2, 3, 4, 5, 6, 7, 8, 13, 20, 8, 21, 8, 20, 13, 20, 0, 24, 27, 32, 33)
}

// moved answers a heap beside the machine's, with all that can be come to, and where Roots are in it.
func (w world) moved() (*heap.Heap, []int64) {
	w.Helper()
	h, now, e := collect.Run(w.Heap(), w.Prog(), w.Roots()...)
	if e != api.OK {
		w.Fatalf("collect.Run: error %d", e)
	}
	return h, now
}

// holdsTwo answers a machine whose main holds two things.
func holdsTwo(t *testing.T) world {
	w := begun(t, 100, mainOf(2, "load, enter, new LA;, store 1, load 1, enter, int 1, int 0, div, pop, retv"))
	w.steps(0, "rrrrrrrr")
	w.roots(1, 2, 3, 4, 5, 6, 7, 8, 9, 8, 9)
	return w
}

// P17.4: what can not be taken changes nothing.
func TestTakeRefused(t *testing.T) {
	w := holdsTwo(t)
	p, h, roots := w.Prog(), w.Heap(), w.Roots()
	other, _ := heap.New(50)
	for _, x := range []struct {
		change func(l []int64) []int64
		want   api.Errno
	}{
		{func(l []int64) []int64 { return nil }, api.ErrArg},
		{func(l []int64) []int64 { return l[:10] }, api.ErrArg},
		{func(l []int64) []int64 { return append(l, 1) }, api.ErrArg},
		{func(l []int64) []int64 { l[7] = 0; return l }, api.ErrArg},
		{func(l []int64) []int64 { l[8] = -1; return l }, api.ErrArg},
		{func(l []int64) []int64 { l[8] = math.MinInt64; return l }, api.ErrArg},
		{func(l []int64) []int64 { l[7] = l[8]; return l }, api.ErrArg},
	} {
		l := x.change(slices.Clone(roots))
		before := slices.Clone(l)
		w.did("Take", w.Take(&link.Prog{}, other, l...), x.want)
		w.did("Take of no program", w.Take(nil, other, l...), api.ErrNil)
		w.did("Take of no heap", w.Take(p, nil, l...), api.ErrNil)
		w.did("Take of no program", w.Take(nil, other, roots...), api.ErrNil)
		w.did("Take of no heap", w.Take(p, nil, roots...), api.ErrNil)
		if w.Prog() != p || w.Heap() != h || !slices.Equal(l, before) {
			t.Error("a refused Take has changed something")
		}
		w.roots(roots...)
	}
}

// P17.4: any other addresses are taken, those that are there always and those of calls also if they are alike, or none.
func TestTake(t *testing.T) {
	w := holdsTwo(t)
	h, _ := heap.New(50)
	l := []int64{7, 7, 0, -5, 1, 1, 2, 20, 3, -9, 20}
	w.did("Take", w.Take(w.Prog(), h, l...), api.OK)
	w.roots(l...)
	if w.Heap() != h || !slices.Equal(w.Locks().Held(), []int64{20, 3}) {
		t.Errorf("Held = %d", w.Locks().Held())
	}
	if f, _ := w.Calls(0).Top(); !slices.Equal(f.Locals, []int64{-9, 20}) || !slices.Equal(f.Stack, []int64{1, 0}) {
		t.Errorf("the call is %v", f)
	}
	// The things that are there always are where they were told to be.
	w = holdsTwo(t)
	g, now := w.moved()
	at, _ := g.Thing(w.Prog().Types().Id("LE;"), 1)
	now[3] = at
	w.did("Take", w.Take(w.Prog(), g, now...), api.OK)
	w.steps(0, "e")
	w.stands(0, exec.Done, "E")
}

// P17.4: another program, with other numbers, goes on where the old one stopped.
func TestTakeOfAnotherProgram(t *testing.T) {
	y := link.NewTypes()
	text := "load, @a call Main.low:()V, @b new LA;, call A.name:()S, print, load, spawn, load, call Main.low:()V, retv, @h pop, int 8, print, retv"
	low := "int 1, print, load, pop, new LA;, call A.name:()S, print, @a null, throw, @b retv, @h pop, int 7, print, retv"
	mains := func(low string, hand ...string) *asm.Class {
		return mainOf(2, text, "@b @h @h Exc").Method("low", "()V", 1, low, hand...).Method("run", "()V", 1, "retv")
	}
	p := progOf(t, y, append(family(), mains(low, "@a @b @h Exc"))...)
	a := asm.New("A", "Object", "z [I").Method("name", "()S", 1, "str new, ret")
	q := progOf(t, y, mains(low, "@a @b @h Exc"), asm.New("New", "A"), a)
	m, _ := exec.New(p, 100)
	w := world{t, m}
	w.start("Main", "main", 0, api.OK)
	w.steps(0, "rp"+"rrr")
	w.wrote("1")
	h, now := w.moved()
	w.did("Take", w.Take(q, h, now...), api.OK)
	codes := make([]int, p.Codes())
	for i := range codes {
		c, _ := p.Code(i)
		codes[i] = q.Own(c.Class, c.Name)
	}
	w.did("Turn", w.Calls(0).Turn(codes...), api.OK)
	if w.Prog() != q || w.Heap() != h {
		t.Error("Prog or Heap are the old ones")
	}
	w.over(0)
	w.wrote("1", "new", "7", "new", "1", "new", "7")
	w.start("New", "name", 0, api.ErrNone)
	w.start("B", "run", 0, api.ErrNone)
	w.start("Main", "run", 2, api.OK)
	w.stands(0, exec.Done, "")
}

// P17.5: whenever it is collected, what is written and thrown is the same.
func TestCollectedWhenever(t *testing.T) {
	text := "str , store 3, new LB;, store 1, int 3, arr [LA;, store 2, @a load 2, load 1, getf A.x:I, int 4, rem, load 1, astore, load 1, load 1, getf A.x:I, int 1, add, putf A.x:I, str x, load 1, call A.name:()S, join, store 3, load 3, print, jump @a, @h is LIndexExc;, print, load 2, int 2, aload, getf A.x:I, print, load 2, alen, print, load 3, slen, print, retv"
	var want []string
	for every := range 12 {
		w := begun(t, 200, mainOf(4, text, "@a @h @h Exc"))
		came := ""
		for n := 0; w.State(0) != exec.Done && n < 500; n++ {
			what, _ := w.Step(0)
			came += strconv.Itoa(what)
			if every > 0 && n%every == 0 {
				w.did("Collect", w.Collect(), api.OK)
			}
		}
		got := append(w.Out(), came, w.End(0))
		if every == 0 {
			want = got
		}
		if !slices.Equal(got, want) || len(w.Out()) != 7 {
			t.Errorf("collected each %d steps it wrote %q, want %q", every, got, want)
		}
	}
}
