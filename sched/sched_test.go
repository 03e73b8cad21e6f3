package sched_test

import (
	"math"
	"slices"
	"strconv"
	"strings"
	"testing"

	"hornbook/api"
	"hornbook/asm"
	"hornbook/exec"
	"hornbook/frame"
	"hornbook/heap"
	"hornbook/link"
	"hornbook/sched"
	"hornbook/table"
)

// machineOf answers a machine of classes, and no thread.
func machineOf(t testing.TB, l ...*asm.Class) *exec.Machine {
	t.Helper()
	classes, wrong := asm.Classes(l...)
	if wrong != "" {
		t.Fatalf("what is %s?", wrong)
	}
	x, name, e := table.New(classes...)
	if e != api.OK {
		t.Fatalf("table.New = %q, error %d", name, e)
	}
	p, e := link.New(x, link.NewTypes())
	if e != api.OK {
		t.Fatalf("link.New: error %d", e)
	}
	m, e := exec.New(p, 200)
	if e != api.OK {
		t.Fatalf("exec.New: error %d", e)
	}
	return m
}

// world is a scheduler.
type world struct {
	testing.TB
	*sched.Sched
	m *exec.Machine
}

// made answers one of a machine with a thread for each method of T; all things that the threads are of have the same one in both.
func made(t testing.TB, methods ...string) world {
	t.Helper()
	c := asm.New("T", "Object", "both LObject;")
	for i, text := range methods {
		c.Method("m"+strconv.Itoa(i), "()V", 2, text)
	}
	m := machineOf(t, c.Method("no", "()V", 1, "retv"))
	for i := range methods {
		if n, e := m.Start("T", "m"+strconv.Itoa(i)); n != i || e != api.OK {
			t.Fatalf("Start = %d, error %d", n, e)
		}
		// The thing of the class NullExc, for one.
		m.Heap().Set(int64(8+2*i), 0, 1)
	}
	s := sched.New(m)
	if s == nil || s.Machine() != m {
		t.Fatal("the machine is another one")
	}
	return world{t, s, m}
}

// ready holds which threads can go on.
func (w world) ready(want ...int) {
	w.Helper()
	if l := w.Ready(); !slices.Equal(l, want) {
		w.Errorf("Ready = %d, want %d", l, want)
	}
}

// pick holds what Pick answers.
func (w world) pick(n, want int, wantE api.Errno) {
	w.Helper()
	if i, e := w.Pick(n); i != want || e != wantE {
		w.Errorf("Pick(%d) = %d, error %d, want %d, error %d", n, i, e, want, wantE)
	}
}

// none holds that there is nothing to be picked.
func (w world) none(want api.Errno) {
	w.Helper()
	w.ready()
	steps := w.Steps()
	for _, n := range []int{math.MinInt, -1, 0, 1, 7, math.MaxInt} {
		w.pick(n, 0, want)
		w.turn(n, 0, 0, want)
	}
	w.counts(w.Alive(), steps)
}

// turn holds what Turn answers.
func (w world) turn(n, who, came int, wantE api.Errno) {
	w.Helper()
	if i, c, e := w.Turn(n); i != who || c != came || e != wantE {
		w.Errorf("Turn(%d) = %d, %d, error %d, want %d, %d, error %d", n, i, c, e, who, came, wantE)
	}
}

// counts holds how many threads are alive, and how many steps were done.
func (w world) counts(alive, steps int) {
	w.Helper()
	if w.Alive() != alive || w.Steps() != steps {
		w.Errorf("Alive %d, Steps %d, want %d, %d", w.Alive(), w.Steps(), alive, steps)
	}
}

// wrote holds all that was written.
func (w world) wrote(want string) {
	w.Helper()
	if got := strings.Join(w.m.Out(), " "); got != want {
		w.Errorf("Out = %q, want %q", got, want)
	}
}

// The chapter's example.
func TestExample(t *testing.T) {
	w := made(t, "read, print, retv", "int 1, print, retv")
	w.turn(0, 0, exec.Stuck, api.OK)
	w.ready(1)
	w.pick(7, 1, api.OK)
}

// P18.1, P18.2: of nil, and of no machine.
func TestNil(t *testing.T) {
	if s := sched.New(nil); s != nil {
		t.Error("of no machine there is a scheduler")
	}
	for _, s := range []*sched.Sched{nil, {}, sched.New(nil)} {
		w := world{t, s, nil}
		if s.Machine() != nil {
			t.Error("there is a machine")
		}
		w.none(api.ErrNil)
		w.counts(0, 0)
	}
}

// P18.1: none is alive, or there is none at all.
func TestNoneAlive(t *testing.T) {
	w := made(t)
	w.none(api.ErrState)
	w.counts(0, 0)
	w.m.Start("T", "no")
	w.ready(0)
	w.counts(1, 0)
	w.turn(5, 0, exec.Ended, api.OK)
	w.none(api.ErrState)
	w.counts(0, 1)
	w.m.Start("T", "no")
	w.turn(0, 1, exec.Ended, api.OK)
	w.none(api.ErrState)
	w.counts(0, 2)
	// Of a machine that exec.New did not make.
	w = world{t, sched.New(&exec.Machine{}), nil}
	w.none(api.ErrState)
}

// P18.1: the place is taken modulo how many there are, from 0 on.
func TestPick(t *testing.T) {
	w := made(t, "read, retv", "@a jump @a", "retv", "@a jump @a", "@a jump @a")
	w.m.Step(0)
	w.m.Step(2)
	w.ready(1, 3, 4)
	for n := -10; n <= 10; n++ {
		w.pick(n, []int{1, 3, 4}[(n+30)%3], api.OK)
		w.turn(n, []int{1, 3, 4}[(n+30)%3], exec.Paused, api.OK)
	}
	// 2^63 is 2 more than a number that has no rest by 3.
	w.pick(math.MaxInt, 3, api.OK)
	w.pick(math.MinInt, 3, api.OK)
	w.pick(math.MinInt+1, 4, api.OK)
	w.counts(4, 21)
}

// P18.1: a hungry thread can go on when a number is left.
func TestHungry(t *testing.T) {
	w := made(t, "read, print, read, print, retv", "read, print, retv")
	// As long as nobody asked, nobody is hungry.
	w.ready(0, 1)
	w.turn(0, 0, exec.Stuck, api.OK)
	w.ready(1)
	w.turn(0, 1, exec.Stuck, api.OK)
	w.none(api.ErrWait)
	w.counts(2, 0)
	w.m.Feed(5)
	w.ready(0, 1)
	w.turn(1, 1, exec.Ended, api.OK)
	w.none(api.ErrWait)
	w.m.Feed(6)
	w.turn(1, 0, exec.Stuck, api.OK)
	w.none(api.ErrWait)
	w.counts(1, 3+2)
	w.m.Feed(7)
	w.turn(1, 0, exec.Ended, api.OK)
	w.none(api.ErrState)
	w.counts(0, 5+3)
	w.wrote("5 6 7")
}

// P18.1: a thread that waits can go on when nobody holds what is on top of its stack, or it itself does.
func TestWaits(t *testing.T) {
	get := "load, getf T.both:LObject;, "
	w := made(t, get+"enter, load, call T.no:()V, "+get+"exit, load, call T.no:()V, "+get+"enter, retv", get+"enter, "+get+"enter, int 1, print, retv")
	w.turn(0, 0, exec.Paused, api.OK)
	w.turn(1, 1, exec.Stuck, api.OK)
	w.ready(0)
	w.counts(2, 5+2)
	w.turn(1, 0, exec.Paused, api.OK)
	// It still waits, but can go on.
	w.ready(0, 1)
	if w.m.State(1) != exec.Waits {
		t.Errorf("State = %d", w.m.State(1))
	}
	w.turn(1, 1, exec.Ended, api.OK)
	w.wrote("1")
	w.ready(0)
	// The one that is Done holds it for ever.
	w.turn(0, 0, exec.Stuck, api.OK)
	w.none(api.ErrLoop)
	w.counts(1, 5+2+6+7+3)
	// Whoever holds it: nobody, or the one that waits.
	w.m.Locks().Exit(1, 1)
	w.none(api.ErrLoop)
	w.m.Locks().Exit(1, 1)
	w.ready(0)
	w.m.Locks().Enter(1, 0)
	w.ready(0)
	w.turn(0, 0, exec.Ended, api.OK)
	w.none(api.ErrState)
}

// P18.1: if none can go on, it is for want of a number when one is hungry, whatever others wait for; else there is no way on.
func TestNoneCanGoOn(t *testing.T) {
	get := "load, getf T.both:LObject;, enter, "
	w := made(t, get+"read, retv", get+"retv", get+"retv")
	w.turn(1, 1, exec.Ended, api.OK)
	w.turn(1, 2, exec.Stuck, api.OK)
	w.turn(0, 0, exec.Stuck, api.OK)
	w.none(api.ErrLoop)
	w = made(t, get+"read, retv", get+"retv", get+"retv")
	w.turn(0, 0, exec.Stuck, api.OK)
	w.turn(0, 1, exec.Stuck, api.OK)
	w.turn(0, 2, exec.Stuck, api.OK)
	w.none(api.ErrWait)
	w.m.Feed(1)
	w.ready(0)
	w.turn(8, 0, exec.Ended, api.OK)
	// It ended, and holds the thing.
	w.none(api.ErrLoop)
	w.m.Feed(1)
	w.none(api.ErrLoop)
}

// P18.2: a turn is steps until one of them is Paused, Stuck or Ended.
func TestTurn(t *testing.T) {
	w := made(t, "nop, int 1, pop, @a jump @b, nop, @b true, jumpf @a, load, call T.no:()V, int 0, int 0, div, retv")
	w.turn(0, 0, exec.Paused, api.OK)
	w.counts(1, 8)
	if w.m.Calls(0).Deep() != 2 {
		t.Errorf("Deep = %d", w.m.Calls(0).Deep())
	}
	w.turn(0, 0, exec.Ended, api.OK)
	w.counts(0, 8+4)
	if w.m.End(0) != "DivExc" {
		t.Errorf("End = %q", w.m.End(0))
	}
	// The longest way that a thread can go on.
	w = made(t, strings.Repeat("nop, ", 511)+"retv")
	w.turn(0, 0, exec.Ended, api.OK)
	w.counts(0, 512)
	// What is caught pauses.
	c := asm.New("T", "Object").Method("m", "()V", 1, "@a null, throw, @b retv, @h pop, nop, retv", "@a @b @h Exc")
	m := machineOf(t, c)
	m.Start("T", "m")
	w = world{t, sched.New(m), m}
	w.turn(0, 0, exec.Paused, api.OK)
	w.counts(1, 2)
	w.turn(0, 0, exec.Ended, api.OK)
	w.counts(0, 5)
}

// P18.2: steps that are done beside it are none of its own; another scheduler's are none, either.
func TestStepsBeside(t *testing.T) {
	w := made(t, "@a nop, jump @a")
	other := world{t, sched.New(w.m), w.m}
	w.turn(0, 0, exec.Paused, api.OK)
	w.m.Step(0)
	w.turn(0, 0, exec.Paused, api.OK)
	other.turn(0, 0, exec.Paused, api.OK)
	w.counts(1, 2+1)
	other.counts(1, 2)
}

// Rule 4 of the document: what is answered is the caller's.
func TestListsOfTheirOwn(t *testing.T) {
	w := made(t, "@a jump @a", "@a jump @a")
	l := w.Ready()
	_ = append(l[:1], 7, 7)
	clear(l)
	w.ready(0, 1)
}

// Whatever is done to a machine's calls from outside, each turn ends.
func TestCallsFromOutside(t *testing.T) {
	for _, spoil := range []func(c *frame.Calls){
		func(c *frame.Calls) { c.Back() },
		func(c *frame.Calls) { c.Go(-1) },
		func(c *frame.Calls) { c.Go(2) },
		func(c *frame.Calls) { c.Call(99, link.Code{}) },
	} {
		w := made(t, "@a nop, jump @a", "@a nop, jump @a")
		spoil(w.m.Calls(0))
		w.ready(0, 1)
		w.turn(0, 0, 0, api.ErrState)
		w.turn(1, 1, exec.Paused, api.OK)
		w.counts(2, 2)
	}
	get := "load, getf T.both:LObject;, enter, "
	w := made(t, get+"retv", get+"retv")
	w.m.Locks().Enter(1, 9)
	w.turn(0, 0, exec.Stuck, api.OK)
	w.m.Calls(0).Pop()
	w.ready(0, 1)
	w.turn(0, 0, exec.Ended, api.OK)
	if w.m.End(0) != "NullExc" {
		t.Errorf("End = %q", w.m.End(0))
	}
	h, _ := heap.New(16)
	w.m.Take(&link.Prog{}, h, w.m.Roots()...)
	w.turn(0, 0, 0, api.ErrState)
	// Where the things that are there always are none, what is thrown is none, either; the thread is over all the same.
	w = made(t, "int 1, int 0, div, pop, retv")
	w.m.Take(w.m.Prog(), w.m.Heap(), make([]int64, 8)...)
	w.turn(0, 0, exec.Ended, api.OK)
	if w.m.State(0) != exec.Done || w.m.End(0) != "" {
		t.Errorf("State = %d, End = %q", w.m.State(0), w.m.End(0))
	}
}
