package exec_test

import (
	"math"
	"slices"
	"strconv"
	"testing"

	"hornbook/api"
	"hornbook/asm"
	"hornbook/exec"
	"hornbook/heap"
	"hornbook/link"
	"hornbook/table"
)

// mainOf answers the class Main, whose method main has this code.
func mainOf(locals int, text string, hand ...string) *asm.Class {
	return asm.New("Main", "Object").Method("main", "()V", locals, text, hand...)
}

// family answers classes that all tests may speak of.
func family() []*asm.Class {
	a := asm.New("A", "Object", "x I", "next LA;", "s S", "ok B").
		Method("twice", "(I)I", 2, "load 1, dup, add, ret").
		Method("name", "()S", 1, "str A, ret").
		Method("minus", "(III)I", 4, "load 1, load 2, sub, load 3, sub, ret").
		Method("me", "()LA;", 1, "load, ret").
		Method("boom", "(LExc;)V", 2, "load 1, throw").
		Method("run", "()V", 1, "load, getf A.s:S, print, retv")
	b := asm.New("B", "A", "y I", "list [LA;").
		Method("name", "()S", 1, "str B, ret").
		Method("more", "()V", 1, "retv").
		Method("run", "()V", 1, "int 70, print, retv")
	e := asm.New("E", "DivExc", "why I")
	none := asm.New("None", "Object")
	return []*asm.Class{b, a, e, none}
}

// progOf answers a program of classes.
func progOf(t testing.TB, y *link.Types, l ...*asm.Class) *link.Prog {
	t.Helper()
	classes, wrong := asm.Classes(l...)
	if wrong != "" {
		t.Fatalf("what is %s?", wrong)
	}
	x, name, e := table.New(classes...)
	if e != api.OK {
		t.Fatalf("table.New = %q, error %d", name, e)
	}
	p, e := link.New(x, y)
	if e != api.OK {
		t.Fatalf("link.New: error %d", e)
	}
	return p
}

// world is a machine.
type world struct {
	testing.TB
	*exec.Machine
}

// made answers a machine of classes, the family among them, and no thread.
func made(t testing.TB, words int, l ...*asm.Class) world {
	t.Helper()
	m, e := exec.New(progOf(t, link.NewTypes(), append(family(), l...)...), words)
	if m == nil || e != api.OK {
		t.Fatalf("New = %v, error %d", m != nil, e)
	}
	return world{t, m}
}

// begun answers a machine of classes, with a thread of Main's main.
func begun(t testing.TB, words int, l ...*asm.Class) world {
	t.Helper()
	w := made(t, words, l...)
	w.start("Main", "main", 0, api.OK)
	return w
}

// ran answers a machine of main with this code, in which it is over.
func ran(t testing.TB, words, locals int, text string, hand ...string) world {
	t.Helper()
	w := begun(t, words, mainOf(locals, text, hand...))
	w.over(0)
	return w
}

// start holds what Start answers.
func (w world) start(class, name string, want int, wantE api.Errno) {
	w.Helper()
	if i, e := w.Start(class, name); i != want || e != wantE {
		w.Errorf("Start(%q, %q) = %d, error %d, want %d, error %d", class, name, i, e, want, wantE)
	}
}

// did holds which error is answered.
func (w world) did(what string, e, want api.Errno) {
	w.Helper()
	if e != want {
		w.Errorf("%s: error %d, want %d", what, e, want)
	}
}

// steps does steps of a thread, and holds what came of each: r it ran, p it paused, s it was stuck, e it ended.
func (w world) steps(i int, want string) {
	w.Helper()
	got := make([]byte, 0, len(want))
	for range want {
		came, e := w.Step(i)
		if e != api.OK || came < 0 || came > 3 {
			w.Fatalf("Step(%d) = %d, error %d behind %q", i, came, e, got)
		}
		got = append(got, "rpse"[came])
	}
	if string(got) != want {
		w.Errorf("of the thread %d came %q, want %q", i, got, want)
	}
}

// over does steps of a thread until it is Done.
func (w world) over(i int) {
	w.Helper()
	for range 20000 {
		if came, e := w.Step(i); came == exec.Ended && e == api.OK {
			return
		} else if came == exec.Stuck || e != api.OK {
			w.Fatalf("Step(%d) = %d, error %d", i, came, e)
		}
	}
	w.Fatalf("the thread %d goes on and on", i)
}

// stands holds how a thread stands, and by which class it ended.
func (w world) stands(i, state int, end string) {
	w.Helper()
	if w.State(i) != state || w.End(i) != end {
		w.Errorf("the thread %d stands %d, and ended by %q, want %d, %q", i, w.State(i), w.End(i), state, end)
	}
}

// wrote holds all that was written.
func (w world) wrote(want ...string) {
	w.Helper()
	if got := w.Out(); !slices.Equal(got, want) {
		w.Errorf("Out = %q, want %q", got, want)
	}
}

// roots holds what Roots answers.
func (w world) roots(want ...int64) {
	w.Helper()
	if got := w.Roots(); !slices.Equal(got, want) {
		w.Errorf("Roots = %d, want %d", got, want)
	}
}

// uses holds how many words are used, and how many can be come to.
func (w world) uses(used, live int) {
	w.Helper()
	if w.Heap().Used() != used || w.Live() != live {
		w.Errorf("Used %d, Live %d, want %d, %d", w.Heap().Used(), w.Live(), used, live)
	}
}

// The chapter's example.
func TestExample(t *testing.T) {
	w := begun(t, 16, mainOf(1, "int 5, print, retv"))
	w.steps(0, "rre")
	w.wrote("5")
	w.stands(0, exec.Done, "")
}

// P17.1: a machine has the seven things, and nothing else.
func TestNew(t *testing.T) {
	p := progOf(t, link.NewTypes(), mainOf(1, "retv"))
	for _, words := range []int{math.MinInt, -1, 0, 15, 4097, math.MaxInt} {
		if m, e := exec.New(p, words); m != nil || e != api.ErrArg {
			t.Errorf("New of %d words: %v, error %d", words, m != nil, e)
		}
		if m, e := exec.New(nil, words); m != nil || e != api.ErrNil {
			t.Errorf("New of no program, and %d words: %v, error %d", words, m != nil, e)
		}
	}
	if m, e := exec.New(nil, 100); m != nil || e != api.ErrNil {
		t.Errorf("New of no program: %v, error %d", m != nil, e)
	}
	for _, words := range []int{16, 17, 4096} {
		m, e := exec.New(p, words)
		if m == nil || e != api.OK {
			t.Fatalf("New of %d words: %v, error %d", words, m != nil, e)
		}
		w := world{t, m}
		if w.Prog() != p || w.Heap().Cap() != words || len(w.Locks().Held()) != 0 || w.Threads() != 0 || w.Left() != 0 {
			t.Errorf("New of %d words has something else", words)
		}
		w.wrote()
		w.roots(1, 2, 3, 4, 5, 6, 7)
		w.uses(7, 7)
		for i, name := range []string{"NullExc", "CastExc", "IndexExc", "DivExc", "StackExc", "MemExc", "LockExc"} {
			id, e := w.Heap().Type(int64(i + 1))
			size, _ := w.Heap().Size(int64(i + 1))
			if e != api.OK || size != 0 || p.Types().Name(id) != "L"+name+";" {
				t.Errorf("the thing %d is of %q, and has %d words, error %d", i, p.Types().Name(id), size, e)
			}
		}
	}
}

// P17.1: where no thing can have the number of a type that is there always, there is no machine.
func TestTypesWithoutThings(t *testing.T) {
	y := link.NewTypes()
	for i := range 65536 {
		y.Id(strconv.Itoa(i))
	}
	p := progOf(t, y, mainOf(1, "retv"))
	for _, p := range []*link.Prog{p, {}} {
		if m, e := exec.New(p, 100); m != nil || e != api.ErrArg {
			t.Errorf("New = %v, error %d", m != nil, e)
		}
	}
}

// P17.1: which methods a thread can be started with.
func TestStart(t *testing.T) {
	w := made(t, 400, asm.New("Main", "B").Method("main", "()V", 1, "load, getf B.y:I, print, retv"), asm.New("Low", "Main"))
	for _, x := range [][2]string{
		{"Z", "main"}, {"", ""}, {"Main", ""}, {"Main", "z"}, {"", "main"}, {"LMain;", "main"}, {"[I", "main"}, {"S", "main"},
		{"Main", "twice"}, {"Main", "name"}, {"Main", "boom"}, {"A", "more"}, {"A", "main"}, {"B", "main"}, {"Object", "main"}, {"Exc", "run"}, {"E", "run"}, {"None", "run"},
	} {
		w.start(x[0], x[1], 0, api.ErrNone)
	}
	w.uses(7, 7)
	if w.Threads() != 0 {
		t.Errorf("Threads = %d", w.Threads())
	}
	for i, x := range [][2]string{{"Main", "main"}, {"Low", "main"}, {"Low", "more"}, {"Main", "run"}, {"B", "run"}, {"A", "run"}} {
		w.start(x[0], x[1], i, api.OK)
		w.stands(i, exec.Ready, "")
		if w.Threads() != i+1 {
			t.Errorf("Threads = %d, want %d", w.Threads(), i+1)
		}
		f, ok := w.Calls(i).Top()
		own := map[string]string{"main": "Main", "more": "B", "run": "B"}[x[1]]
		if x[0] == "A" {
			own = "A"
		}
		id, _ := w.Heap().Type(f.Locals[0])
		if !ok || w.Calls(i).Deep() != 1 || f.Pc != 0 || len(f.Stack) != 0 || f.Code != w.Prog().Own(own, x[1]) || w.Prog().Types().Name(id) != "L"+x[0]+";" {
			t.Errorf("Start(%q, %q) has the call %v, of a thing of %q", x[0], x[1], f, w.Prog().Types().Name(id))
		}
	}
	w.over(1)
	w.over(3)
	w.wrote("0", "70")
}

// P17.1: eight threads at most are not Done; then there must be room for the thing.
func TestStartAtLimits(t *testing.T) {
	w := made(t, 100, mainOf(1, "retv"))
	for i := range 8 {
		w.start("Main", "main", i, api.OK)
	}
	w.start("Main", "main", 0, api.ErrBusy)
	w.start("Main", "z", 0, api.ErrNone)
	w.over(3)
	w.start("Main", "main", 8, api.OK)
	w.start("Main", "main", 0, api.ErrBusy)
	for _, i := range []int{0, 1, 2, 4, 5, 6, 7, 8} {
		w.stands(i, exec.Ready, "")
		w.over(i)
	}
	w.start("Main", "main", 9, api.OK)
	// 16 words: the seven, one of Main, and five, of A, which is not Done; so there are three left.
	w = made(t, 16, mainOf(1, "retv"))
	w.start("A", "run", 0, api.OK)
	w.start("A", "run", 0, api.ErrFull)
	w.start("Main", "main", 1, api.OK)
	w.start("A", "run", 0, api.ErrFull)
	w.start("B", "run", 0, api.ErrFull)
	if w.Threads() != 2 {
		t.Errorf("Threads = %d", w.Threads())
	}
	w.over(0)
	w.uses(16-3, 8)
	w.start("B", "run", 2, api.OK)
	w.uses(15, 15)
}

// P17.2: of threads that there are not.
func TestNoThread(t *testing.T) {
	w := begun(t, 100, mainOf(1, "retv"))
	for _, i := range []int{math.MinInt, -1, 1, 2, math.MaxInt} {
		if w.Calls(i) != nil {
			t.Errorf("Calls(%d) is there", i)
		}
		w.stands(i, exec.Done, "")
		if came, e := w.Step(i); came != 0 || e != api.ErrRange {
			t.Errorf("Step(%d) = %d, error %d", i, came, e)
		}
	}
	w.steps(0, "e")
	for range 2 {
		if came, e := w.Step(0); came != 0 || e != api.ErrState {
			t.Errorf("Step of one that is Done = %d, error %d", came, e)
		}
	}
	if c := w.Calls(0); c == nil || c.Deep() != 0 {
		t.Error("Calls of one that is Done are not there, or not over")
	}
	// It is Done for good.
	x, _ := w.Prog().Code(w.Prog().Own("Main", "main"))
	w.Calls(0).Call(w.Prog().Own("Main", "main"), x, 1)
	if came, e := w.Step(0); came != 0 || e != api.ErrState {
		t.Errorf("Step of one that is Done = %d, error %d", came, e)
	}
	w.stands(0, exec.Done, "")
}

// P17.2: 64 numbers wait at most, and are read in order.
func TestFeed(t *testing.T) {
	w := begun(t, 100, mainOf(1, "@a read, print, jump @a"))
	var want []string
	for i := range 64 {
		if w.Left() != i {
			t.Errorf("Left = %d, want %d", w.Left(), i)
		}
		n := []int64{int64(i), math.MinInt64, math.MaxInt64, -1}[i%4]
		w.did("Feed", w.Feed(n), api.OK)
		want = append(want, strconv.FormatInt(n, 10))
	}
	for range 2 {
		w.did("Feed of 65", w.Feed(7), api.ErrFull)
	}
	w.steps(0, "rrp")
	w.did("Feed", w.Feed(70), api.OK)
	w.did("Feed of 65", w.Feed(7), api.ErrFull)
	for range 64 {
		w.steps(0, "rrp")
	}
	w.wrote(append(want, "70")...)
	if w.Left() != 0 {
		t.Errorf("Left = %d", w.Left())
	}
	w.steps(0, "sss")
	w.stands(0, exec.Hungry, "")
	w.did("Feed", w.Feed(3), api.OK)
	w.stands(0, exec.Hungry, "")
	w.steps(0, "r")
	w.stands(0, exec.Ready, "")
}

// Rules 4 and 5 of the document: lists that are answered, or handed in, are not the machine's.
func TestListsOfTheirOwn(t *testing.T) {
	w := begun(t, 100, mainOf(1, "int 1, print, int 2, print, retv"))
	w.steps(0, "rr")
	first := w.Out()
	_ = append(first, "z")
	w.steps(0, "rr")
	first[0] = "z"
	w.wrote("1", "2")
	w.Out()[0] = "z"
	_ = append(w.Out()[:1], "z")
	w.wrote("1", "2")
	for _, m := range []world{w, made(t, 16)} {
		want := slices.Clone(m.Roots())
		l := m.Roots()
		_ = append(l, 99)
		clear(l)
		m.roots(want...)
		l = slices.Clone(want)
		m.did("Take", m.Take(m.Prog(), m.Heap(), l...), api.OK)
		clear(l)
		m.roots(want...)
	}
}

// P17.1 to P17.4: of nil, and of machines that New did not make.
func TestNil(t *testing.T) {
	p := progOf(t, link.NewTypes(), mainOf(1, "retv"))
	h, _ := heap.New(100)
	var m *exec.Machine
	w := world{t, m}
	if m.Prog() != nil || m.Heap() != nil || m.Locks() != nil || m.Calls(0) != nil || m.Threads() != 0 || m.State(0) != 0 || m.State(-1) != 0 || m.End(0) != "" || m.Left() != 0 || m.Live() != 0 {
		t.Error("nil has something")
	}
	w.wrote()
	w.roots()
	w.start("Main", "main", 0, api.ErrNil)
	w.start("", "", 0, api.ErrNil)
	w.did("Feed", m.Feed(1), api.ErrNil)
	w.did("Collect", m.Collect(), api.ErrNil)
	for _, l := range [][]int64{nil, {1}, make([]int64, 7)} {
		w.did("Take", m.Take(p, h, l...), api.ErrNil)
	}
	for _, i := range []int{-1, 0, 1} {
		if came, e := m.Step(i); came != 0 || e != api.ErrNil {
			t.Errorf("Step of nil = %d, error %d", came, e)
		}
	}
	w = world{t, &exec.Machine{}}
	w.start("Main", "main", 0, api.ErrNone)
	w.did("Feed", w.Feed(1), api.OK)
	w.did("Collect", w.Collect(), api.ErrNil)
	w.did("Take", w.Take(p, h, 1), api.ErrArg)
	w.Take(p, h, make([]int64, 7)...)
	w.Start("Main", "main")
	w.Step(0)
	if n := w.Live(); n != 0 {
		t.Errorf("Live = %d", n)
	}
}

// Whatever is done to a machine's parts from outside, no call panics, and each ends.
func TestPartsFromOutside(t *testing.T) {
	text := "load, store 1, @a load 1, call Main.deep:()V, @b load 1, getf Main.list:[I, pop, jump @a, @c throw"
	for _, spoil := range []func(m *exec.Machine){
		func(m *exec.Machine) { m.Calls(0).Back() },
		func(m *exec.Machine) {
			for range 40 {
				m.Calls(0).Back()
			}
		},
		func(m *exec.Machine) { m.Calls(0).Go(-1) },
		func(m *exec.Machine) { m.Calls(0).Go(math.MaxInt) },
		func(m *exec.Machine) { m.Calls(0).Go(7); m.Calls(0).Push(5) },
		func(m *exec.Machine) { m.Calls(0).Pop() },
		func(m *exec.Machine) { m.Calls(0).Store(0, 99) },
		func(m *exec.Machine) { m.Calls(0).Store(1, -9) },
		func(m *exec.Machine) { m.Calls(0).Store(1, 3) },
		func(m *exec.Machine) { m.Calls(0).Call(77, link.Code{}); m.Calls(0).Call(0, link.Code{}) },
		func(m *exec.Machine) { m.Calls(0).Turn(1, 0, 1, 0, 1, 0, 1, 0, 1, 0, 1, 0, 1, 0, 1, 0) },
		func(m *exec.Machine) { m.Calls(0).Catch(99, 99); m.Calls(0).Call(0, link.Code{}) },
		func(m *exec.Machine) { m.Heap().Send(1, 5) },
		func(m *exec.Machine) { m.Heap().Set(8, 0, 77) },
		func(m *exec.Machine) { m.Heap().Set(10, 0, math.MaxInt64) },
		func(m *exec.Machine) { m.Locks().Enter(500, 0); m.Locks().Enter(1, 5) },
		func(m *exec.Machine) { m.Take(m.Prog(), m.Heap(), make([]int64, len(m.Roots()))...) },
		func(m *exec.Machine) { m.Take(&link.Prog{}, &heap.Heap{}, m.Roots()...) },
		func(m *exec.Machine) { m.Prog().Types().Id("new") },
	} {
		for many := range 20 {
			main := asm.New("Main", "Object", "list [I").
				Method("main", "()V", 2, text, "@a @c @c Exc").
				Method("deep", "()V", 1, "load, int 3, arr [I, putf Main.list:[I, load, dup, enter, call Main.deep:()V, retv")
			w := begun(t, 40, main)
			for range many {
				w.Step(0)
			}
			spoil(w.Machine)
			for range 60 {
				w.Step(0)
				w.Collect()
				w.Live()
				w.Roots()
			}
			w.Start("Main", "main")
			w.Step(1)
		}
	}
}

// P17.2: what is answered is what the machine works on.
func TestPartsOfTheMachine(t *testing.T) {
	w := begun(t, 100, mainOf(2, "load, enter, int 4, store 1, load 1, print, retv"))
	w.did("Enter", w.Locks().Enter(8, 5), api.OK)
	w.steps(0, "rss")
	w.stands(0, exec.Waits, "")
	w.did("Exit", w.Locks().Exit(8, 5), api.OK)
	w.steps(0, "rrr")
	w.Calls(0).Store(1, 44)
	w.steps(0, "rre")
	w.wrote("44")
	if who, times, ok := w.Locks().Owner(8); who != 0 || times != 1 || !ok {
		t.Errorf("Owner = %d, %d, %v", who, times, ok)
	}
}
