package vm_test

import (
	"math"
	"slices"
	"strconv"
	"strings"
	"testing"

	"hornbook/api"
	"hornbook/asm"
	"hornbook/exec"
	"hornbook/vm"
)

// classesOf answers the classes that were written.
func classesOf(t testing.TB, l ...*asm.Class) []api.Class {
	t.Helper()
	classes, wrong := asm.Classes(l...)
	if wrong != "" {
		t.Fatalf("what is %s?", wrong)
	}
	return classes
}

// mainOf answers the class Main, whose method main has this code.
func mainOf(text string, hand ...string) *asm.Class {
	return asm.New("Main", "Object").Method("main", "()V", 3, text, hand...)
}

// world is a program that runs.
type world struct {
	testing.TB
	*vm.Vm
}

// begun answers one that has begun.
func begun(t testing.TB, words int, l ...*asm.Class) world {
	t.Helper()
	v, name, e := vm.New(words, classesOf(t, l...)...)
	if v == nil || name != "" || e != api.OK {
		t.Fatalf("New = %v, %q, error %d", v != nil, name, e)
	}
	return world{t, v}
}

// refused holds that New tells a name and an error, and nothing else.
func refused(t *testing.T, words int, name string, e api.Errno, l ...api.Class) {
	t.Helper()
	if v, gotName, gotE := vm.New(words, l...); v != nil || gotName != name || gotE != e {
		t.Errorf("New(%d, %.300v) = %v, %q, error %d, want %q, error %d", words, l, v != nil, gotName, gotE, name, e)
	}
}

// turns does one turn for each pick, and holds that all can be done.
func (w world) turns(picks ...int) {
	w.Helper()
	for _, n := range picks {
		w.turn(n, api.OK)
	}
}

// turn holds what Turn answers.
func (w world) turn(n int, want api.Errno) {
	w.Helper()
	if e := w.Turn(n); e != want {
		w.Errorf("Turn(%d): error %d, want %d", n, e, want)
	}
}

// feed holds what Feed answers.
func (w world) feed(n int64, want api.Errno) {
	w.Helper()
	if e := w.Feed(n); e != want {
		w.Errorf("Feed(%d): error %d, want %d", n, e, want)
	}
}

// run holds what Run answers.
func (w world) run(want int, wantE api.Errno, picks ...int) {
	w.Helper()
	if n, e := w.Run(picks...); n != want || e != wantE {
		w.Errorf("Run(%d) = %d, error %d, want %d, error %d", picks, n, e, want, wantE)
	}
}

// shown answers lines as texts: w of what was written, e of what ended, d of none that can go on.
func shown(l []vm.Line) []string {
	var texts []string
	for _, x := range l {
		switch x.Kind {
		case vm.Wrote:
			texts = append(texts, "w"+strconv.Itoa(x.Thread)+" "+x.Text)
		case vm.Ended:
			texts = append(texts, "e"+strconv.Itoa(x.Thread)+" "+x.Text)
		case vm.Dead:
			texts = append(texts, "d"+strconv.Itoa(x.Thread)+" "+x.Text)
		default:
			texts = append(texts, "?")
		}
	}
	return texts
}

// tells holds what the trace tells.
func (w world) tells(want ...string) {
	w.Helper()
	if got := shown(w.Trace()); !slices.Equal(got, want) {
		w.Errorf("Trace = %q, want %q", got, want)
	}
}

// The chapter's example.
func TestExample(t *testing.T) {
	w := begun(t, 16, mainOf("int 5, print, retv"))
	w.tells()
	w.turn(0, api.OK)
	if l := w.Trace(); !slices.Equal(l, []vm.Line{{Kind: 1, Thread: 0, Text: "5"}, {Kind: 2, Thread: 0, Text: ""}}) {
		t.Errorf("Trace = %v", l)
	}
	w.turn(0, api.ErrState)
	w.tells("w0 5", "e0 ")
}

// The examples of the whole, 1 to 5.
func TestExamplesOfTheWhole(t *testing.T) {
	w := begun(t, 100, mainOf("int 1, int 2, add, print, retv"))
	w.run(1, api.ErrState, 0, 0)
	w.tells("w0 3", "e0 ")

	w = begun(t, 100, mainOf("read, print, retv"))
	w.run(1, api.ErrWait, 0, 0)
	w.tells()
	w.feed(5, api.OK)
	w.run(1, api.ErrState, 0, 0)
	w.tells("w0 5", "e0 ")

	w = begun(t, 100, crossed()...)
	w.turns(0)
	w.run(3, api.ErrLoop, 1, 0, 5, 0, 1, 0)
	w.tells("d0 ")

	w = begun(t, 100, mainOf("int 1, int 0, div, print, retv"))
	w.run(1, api.ErrState, 0, 0)
	w.tells("e0 DivExc")

	w = begun(t, 16, mainOf("@a int 6, arr [I, pop, jump @a"))
	w.run(300, api.OK, make([]int, 300)...)
	w.tells()
	w = begun(t, 100, mainOf("null, cast [LObject;, store 1, @a int 1, arr [LObject;, dup, int 0, load 1, astore, store 1, jump @a"))
	w.run(31, api.ErrState, make([]int, 300)...)
	w.tells("e0 MemExc")
}

// crossed answers two threads that each hold what the other one wants, behind the first turn, and two each.
func crossed() []*asm.Class {
	text := "load, getf W.a:LObject;, enter, load, call W.no:()V, load, getf W.b:LObject;, enter, str in, print, retv"
	w := asm.New("W", "Object", "a LObject;", "b LObject;").Method("run", "()V", 1, text).Method("no", "()V", 1, "retv")
	main := "new LW;, store 1, new LObject;, store 2, load 1, load, putf W.a:LObject;, load 1, load 2, putf W.b:LObject;, load 1, spawn, load 2, enter, load, call Main.no:()V, load, enter, retv"
	return []*asm.Class{w, mainOf(main).Method("no", "()V", 1, "retv")}
}

// P19.1 to P19.3: of nil, and of a program that New did not make.
func TestNil(t *testing.T) {
	for _, v := range []*vm.Vm{nil, {}} {
		w := world{t, v}
		if w.Sched() != nil {
			t.Error("there is a scheduler")
		}
		w.turn(0, api.ErrNil)
		w.feed(5, api.ErrNil)
		w.run(0, api.ErrNil, 0, 0, 0)
		w.tells()
	}
	world{t, nil}.run(0, api.ErrNil)
	// Of a program without threads no turn is done.
	world{t, &vm.Vm{}}.run(0, api.OK)
}

// P19.1: classes that are no table's.
func TestNewOfNoTable(t *testing.T) {
	main := classesOf(t, mainOf("retv"))[0]
	class := func(name, super string) api.Class { return api.Class{Name: name, Super: super} }
	wrong := class("B", "Object")
	wrong.Fields = []api.Field{{Name: "x", Desc: "LC;"}}
	var many []api.Class
	for i := range 32 {
		many = append(many, class("C"+strconv.Itoa(i), "Object"))
	}
	refused(t, 100, "", api.ErrSize, append(many, main)...)
	refused(t, 100, "Main", api.ErrTwice, main, main)
	refused(t, 100, "Exc", api.ErrTwice, main, class("Exc", "Object"))
	refused(t, 100, "B", api.ErrNone, main, class("B", "C"))
	refused(t, 100, "B", api.ErrLoop, main, class("B", "C"), class("C", "B"))
	refused(t, 100, "", api.ErrName, main, class("", "Object"))
	refused(t, 100, "B", api.ErrDesc, main, wrong)
	// With just so many that there may be it begins.
	if v, name, e := vm.New(100, append(many[1:], main)...); v == nil || name != "" || e != api.OK {
		t.Errorf("New of 32 classes: %q, error %d", name, e)
	}
}

// P19.1: methods that can not be run; the first class that has one.
func TestNewOfWhatCanNotBeRun(t *testing.T) {
	bad := func(name string) *asm.Class { return asm.New(name, "Object").Method("m", "()V", 1, "pop, retv") }
	l := classesOf(t, mainOf("retv"), asm.New("A", "Object").Method("m", "()V", 1, "retv"), bad("C"), bad("B"))
	refused(t, 100, "C", api.ErrVerify, l...)
	refused(t, 100, "B", api.ErrVerify, l[0], l[1], l[3], l[2])
	refused(t, 100, "Main", api.ErrVerify, classesOf(t, bad("B"), mainOf("int 1"))[1])
	refused(t, 100, "Main", api.ErrVerify, classesOf(t, mainOf("new LA;, pop, retv"))...)
}

// P19.1: there must be a Main that has a main which takes and gives nothing, its own or not.
func TestNewMain(t *testing.T) {
	method := func(c *asm.Class, name, sig, text string) []api.Class {
		return classesOf(t, c.Method(name, sig, 2, text))
	}
	main := func() *asm.Class { return asm.New("Main", "Object") }
	refused(t, 100, "Main", api.ErrMain)
	refused(t, 100, "Main", api.ErrMain, classesOf(t, main())...)
	refused(t, 100, "Main", api.ErrMain, method(main(), "run", "()V", "retv")...)
	refused(t, 100, "Main", api.ErrMain, method(main(), "Main", "()V", "retv")...)
	refused(t, 100, "Main", api.ErrMain, method(main(), "main", "(I)V", "retv")...)
	refused(t, 100, "Main", api.ErrMain, method(main(), "main", "()I", "int 1, ret")...)
	refused(t, 100, "Main", api.ErrMain, method(main(), "main", "()LMain;", "null, ret")...)
	refused(t, 100, "Main", api.ErrMain, method(asm.New("main", "Object"), "main", "()V", "retv")...)
	refused(t, 100, "Main", api.ErrMain, append(method(asm.New("A", "Object"), "main", "()V", "retv"), classesOf(t, main())...)...)
	// One that stands below has it not.
	refused(t, 100, "Main", api.ErrMain, append(method(asm.New("A", "Main"), "main", "()V", "retv"), classesOf(t, main())...)...)

	a := asm.New("A", "Object", "x I").Method("main", "()V", 1, "load, is LMain;, print, load, getf A.x:I, print, retv")
	w := begun(t, 100, asm.New("Main", "A", "y I"), a)
	w.turn(0, api.OK)
	w.tells("w0 true", "w0 0", "e0 ")
	w = begun(t, 100, asm.New("Main", "A", "y I").Method("main", "()V", 1, "int 2, print, retv"), a)
	w.turn(0, api.OK)
	w.tells("w0 2", "e0 ")
}

// P19.1: the heap's words, and no room for the thing that main is of.
func TestNewWords(t *testing.T) {
	l := classesOf(t, mainOf("retv"))
	for _, words := range []int{math.MinInt, -1, 0, 15, 4097, math.MaxInt} {
		refused(t, words, "", api.ErrArg, l...)
	}
	for _, words := range []int{16, 17, 4096} {
		w := begun(t, words, mainOf("retv"))
		if got := w.Sched().Machine().Heap().Cap(); got != words {
			t.Errorf("the heap has %d words, want %d", got, words)
		}
	}
	for n := range 17 {
		c := mainOf("retv")
		for i := range n {
			c.Fields = append(c.Fields, api.Field{Name: "f" + strconv.Itoa(i), Desc: "I"})
		}
		// The seven things that are there always, and Main's.
		if 7+1+n > 16 {
			refused(t, 16, "", api.ErrFull, c.Class)
			begun(t, 7+1+n, c)
		} else {
			begun(t, 16, c)
		}
	}
}

// P19.1: of several errors the one that is named first.
func TestNewOrder(t *testing.T) {
	l := classesOf(t, mainOf("pop, retv"), asm.New("B", "C"), asm.New("A", "Object").Method("main", "(I)V", 2, "retv"), asm.New("Main", "A"))
	refused(t, 8, "B", api.ErrNone, l[0], l[1])
	refused(t, 8, "Main", api.ErrVerify, l[0], l[2])
	refused(t, 8, "A", api.ErrVerify, classesOf(t, asm.New("A", "Object").Method("m", "()V", 1, "pop, retv"))...)
	refused(t, 8, "Main", api.ErrMain, l[3], l[2])
	refused(t, 8, "", api.ErrArg, classesOf(t, mainOf("retv"))...)
}

// P19.1: it has a machine with one thread, and nothing has happened.
func TestNewBegins(t *testing.T) {
	w := begun(t, 100, mainOf("int 5, print, retv"), asm.New("A", "Object").Method("m", "()V", 1, "retv"))
	m := w.Sched().Machine()
	if m == nil || m.Threads() != 1 || m.State(0) != exec.Ready || m.Left() != 0 || len(m.Out()) != 0 || w.Sched().Steps() != 0 {
		t.Fatal("it has not just begun")
	}
	l := m.Calls(0).All()
	if len(l) != 1 || l[0].Code != m.Prog().Own("Main", "main") || l[0].Pc != 0 || !slices.Equal(l[0].Locals, []int64{8, 0, 0}) {
		t.Errorf("the calls are %v", l)
	}
	if at, _ := m.Heap().Type(8); m.Prog().Types().Name(at) != "LMain;" {
		t.Errorf("main is of %q", m.Prog().Types().Name(at))
	}
	w.tells()
}

// Rule 5 of the document: classes that were handed in are not kept.
func TestClassesAreNotKept(t *testing.T) {
	l := classesOf(t, mainOf("int 5, print, retv"))
	v, _, _ := vm.New(100, l...)
	l[0].Consts[0].N = 6
	l[0].Methods[0].Code[1] = api.Ins{Op: api.Pop}
	l[0].Methods[0].Name = "no"
	w := world{t, v}
	w.turn(0, api.OK)
	w.tells("w0 5", "e0 ")
}

// P19.2: all that one turn does stands behind the others, what was written first, then that its thread ended.
func TestTurn(t *testing.T) {
	c := mainOf("int 1, print, true, print, load, spawn, str a b, print, @a load, call Main.low:()V, int 4, print, null, throw").
		Method("low", "()V", 1, "int 3, print, str , print, retv").
		Method("run", "()V", 1, "int -7, print, @a jump @b, @b str \n\x00, print, new LE;, throw")
	w := begun(t, 100, c, asm.New("E", "DivExc"))
	w.turn(0, api.OK)
	w.tells("w0 1", "w0 true", "w0 a b")
	w.turn(1, api.OK)
	w.tells("w0 1", "w0 true", "w0 a b", "w1 -7", "w1 \n\x00", "e1 E")
	w.turn(0, api.OK)
	w.tells("w0 1", "w0 true", "w0 a b", "w1 -7", "w1 \n\x00", "e1 E", "w0 3", "w0 ", "w0 4", "e0 NullExc")
	for _, n := range []int{0, 1, -1, math.MaxInt, math.MinInt} {
		w.turn(n, api.ErrState)
	}
	if l := w.Trace(); len(l) != 10 {
		t.Errorf("Trace = %v", l)
	}
}

// P19.2: which thread goes on is the pick's place, from 0 on, round and round.
func TestPicks(t *testing.T) {
	for n, want := range map[int]int{0: 0, 1: 1, 2: 2, 3: 0, 7: 1, -1: 2, -2: 1, -3: 0, math.MaxInt: 1, math.MinInt: 1} {
		w := begun(t, 100, mainOf("new LW;, spawn, new LW;, spawn, load, call Main.no:()V, int 9, print, retv").Method("no", "()V", 1, "retv"), asm.New("W", "Object").Method("run", "()V", 1, "int 9, print, retv"))
		w.turns(0, n)
		w.tells("w"+strconv.Itoa(want)+" 9", "e"+strconv.Itoa(want)+" ")
	}
}

// P19.2: of a turn in which nothing is written and nothing ends no line is told.
func TestTurnsWithoutLines(t *testing.T) {
	w := begun(t, 100, mainOf("@a null, throw, @b read, pop, jump @b, @h pop, jump @b", "@a @b @h Exc"))
	w.turns(0, 0)
	w.turn(0, api.OK)
	w.turn(0, api.ErrWait)
	w.feed(1, api.OK)
	w.turn(0, api.OK)
	w.tells()
}

// P19.2: that none can ever go on is told once, and just then.
func TestDead(t *testing.T) {
	w := begun(t, 100, crossed()...)
	w.turns(0, 1, 0, 1)
	w.tells()
	if w.Alive() != 2 || len(w.Ready()) != 0 {
		t.Fatalf("Alive %d, Ready %d", w.Alive(), w.Ready())
	}
	for range 3 {
		w.turn(7, api.ErrLoop)
		w.tells("d0 ")
	}
	w.feed(1, api.OK)
	w.run(0, api.ErrLoop, 1, 2, 3)
	w.tells("d0 ")
	// Somebody lets go of what a thread waits for: it goes on, and when it is over, the other one can not go on, either; that was told.
	l := w.Machine().Locks()
	if e := l.Exit(l.Held()[0], 0); e != api.OK {
		t.Fatalf("Exit: error %d", e)
	}
	w.turn(0, api.OK)
	w.turn(0, api.ErrLoop)
	w.tells("d0 ", "w1 in", "e1 ")
}

// P19.2: as long as one is hungry, or none is alive, nothing is dead.
func TestNotDead(t *testing.T) {
	get := "load, enter, "
	c := mainOf(get+"load, spawn, load, spawn, read, print, retv").Method("run", "()V", 1, get+"retv")
	w := begun(t, 100, c)
	w.turns(0, 0, 1)
	w.run(0, api.ErrWait, 0)
	w.tells()
	w.feed(3, api.OK)
	w.run(1, api.ErrLoop, 0, 0)
	w.tells("w0 3", "e0 ", "d0 ")
	w = begun(t, 100, mainOf("retv"))
	w.turn(0, api.OK)
	w.turn(0, api.ErrState)
	w.tells("e0 ")
}

// P19.2: numbers wait to be read, so many that there may be.
func TestFeed(t *testing.T) {
	w := begun(t, 100, mainOf("@a read, print, jump @a"))
	for i := range 64 {
		w.feed(int64(i)-32, api.OK)
	}
	w.feed(64, api.ErrFull)
	w.turns(0)
	w.feed(math.MinInt64, api.OK)
	w.feed(math.MaxInt64, api.ErrFull)
	w.run(65, api.ErrWait, make([]int, 70)...)
	var want []string
	for i := range 64 {
		want = append(want, "w0 "+strconv.Itoa(i-32))
	}
	w.tells(append(want, "w0 -9223372036854775808")...)
}

// P19.2: what is answered is the caller's.
func TestTraceOfItsOwn(t *testing.T) {
	w := begun(t, 100, mainOf("int 1, print, @a jump @b, @b int 2, print, load, call Main.no:()V, int 3, print, retv").Method("no", "()V", 1, "retv"))
	w.turn(0, api.OK)
	l := w.Trace()
	l[0].Text = "9"
	_ = append(l[:1], vm.Line{Kind: 7})
	w.tells("w0 1", "w0 2")
	first := w.Trace()
	_ = append(first, vm.Line{Kind: 7})
	w.turn(0, api.OK)
	w.tells("w0 1", "w0 2", "w0 3", "e0 ")
	if got := shown(first); !slices.Equal(got, []string{"w0 1", "w0 2"}) {
		t.Errorf("what was answered is %q", got)
	}
}

// P19.3: turns up to the first error, and how many were done.
func TestRun(t *testing.T) {
	loop := "@a read, print, jump @a"
	w := begun(t, 100, mainOf(loop))
	w.run(0, api.OK)
	w.tells()
	w.feed(4, api.OK)
	w.feed(5, api.OK)
	w.run(0, api.OK)
	w.run(1, api.OK, 3)
	w.tells("w0 4")
	// The turn in which it is hungry is done.
	w.run(2, api.ErrWait, -1, 0, 8, 0)
	w.tells("w0 4", "w0 5")
	w.run(0, api.ErrWait, 1)
	picks := []int{5, -5}
	w = begun(t, 100, mainOf("int 1, print, load, call Main.no:()V, int 2, print, retv").Method("no", "()V", 1, "retv"))
	w.run(2, api.OK, picks...)
	w.run(0, api.ErrState, picks...)
	w.tells("w0 1", "w0 2", "e0 ")
	if !slices.Equal(picks, []int{5, -5}) {
		t.Errorf("the picks are %d", picks)
	}
}

// Rule 1 of the document: what is done beside it, by calls of its scheduler and machine, it sees.
func TestBeside(t *testing.T) {
	c := mainOf("read, print, load, call Main.no:()V, int 2, print, @a jump @a").Method("no", "()V", 1, "retv").Method("other", "()V", 1, "str other, print, retv")
	w := begun(t, 100, c)
	m := w.Sched().Machine()
	w.turn(0, api.OK)
	w.turn(0, api.ErrWait)
	m.Feed(6)
	w.turn(0, api.OK)
	w.tells("w0 6")
	if i, e := m.Start("Main", "other"); i != 1 || e != api.OK {
		t.Fatalf("Start = %d, error %d", i, e)
	}
	w.turn(1, api.OK)
	w.tells("w0 6", "w1 other", "e1 ")
	// What a thread wrote beside is told with its next turn.
	m.Step(0)
	m.Step(0)
	m.Step(0)
	w.tells("w0 6", "w1 other", "e1 ")
	w.turn(0, api.OK)
	w.tells("w0 6", "w1 other", "e1 ", "w0 2")
	w.turn(0, api.OK)
	w.tells("w0 6", "w1 other", "e1 ", "w0 2")
	w = begun(t, 100, mainOf("retv"))
	w.Sched().Turn(0)
	w.turn(0, api.ErrState)
}

// Whatever is done to a machine's calls from outside, each turn ends, and a refused one tells nothing.
func TestCallsFromOutside(t *testing.T) {
	w := begun(t, 100, mainOf("int 1, print, retv"))
	w.Machine().Calls(0).Back()
	w.turn(0, api.ErrState)
	w.run(0, api.ErrState, 0, 1)
	w.tells()
}

// The ways of the document: what a program runs on is its own.
func TestPromoted(t *testing.T) {
	w := begun(t, 100, mainOf("new LW;, spawn, load, call Main.no:()V, retv").Method("no", "()V", 1, "retv"), asm.New("W", "Object").Method("run", "()V", 1, "retv"))
	w.turn(0, api.OK)
	s := w.Sched()
	if w.Machine() != s.Machine() || w.Alive() != 2 || w.Steps() != 4 || !slices.Equal(w.Ready(), []int{0, 1}) {
		t.Errorf("Alive %d, Steps %d, Ready %d", w.Alive(), w.Steps(), w.Ready())
	}
	if i, e := w.Pick(3); i != 1 || e != api.OK {
		t.Errorf("Pick = %d, error %d", i, e)
	}
}

// A long program is told whole.
func TestLong(t *testing.T) {
	w := begun(t, 100, mainOf(strings.Repeat("int 1, print, ", 200)+"@a int 2, print, jump @a"))
	w.run(300, api.OK, make([]int, 300)...)
	if l := w.Trace(); len(l) != 500 || l[199].Text != "1" || l[200].Text != "2" || l[499] != (vm.Line{Kind: vm.Wrote, Text: "2"}) {
		t.Errorf("there are %d lines", len(l))
	}
}
