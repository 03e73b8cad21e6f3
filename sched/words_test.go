package sched_test

import (
	"math/rand/v2"
	"slices"
	"strconv"
	"strings"
	"testing"

	"hornbook/api"
	"hornbook/asm"
	"hornbook/exec"
	"hornbook/sched"
)

// picker answers a number from 0 to below another one.
type picker func(below int) int

// text answers code of a thread: things that others want, too, are held and let go, numbers are read, calls are made.
func text(pick picker) string {
	fields := []string{"a", "b", "c"}
	var l []string
	for range 1 + pick(8) {
		get := "load, getf W." + fields[pick(3)] + ":LObject;, "
		switch pick(10) {
		case 0, 1, 2:
			l = append(l, get+"enter")
		case 3, 4:
			l = append(l, get+"exit")
		case 5:
			l = append(l, "read, print")
		case 6:
			l = append(l, "load, call W.no:()V")
		case 7:
			l = append(l, "int "+strconv.Itoa(pick(9))+", print")
		case 8:
			l = append(l, get+"dup, enter, load, call W.no:()V, exit")
		default:
			l = append(l, "nop, nop")
		}
	}
	if pick(3) == 0 {
		return strings.Join(l, ", ") + ", retv"
	}
	return "@a " + strings.Join(l, ", ") + ", jump @a"
}

// classes answers those of a program whose main begins some threads, that want the same three things.
func classes(pick picker) []*asm.Class {
	w := asm.New("W", "Object", "a LObject;", "b LObject;", "c LObject;").
		Method("no", "()V", 1, "retv").
		Method("run", "()V", 1, "retv")
	main := []string{"new LObject;, store 2, new LObject;, store 3, new LObject;, store 4"}
	l := []*asm.Class{w}
	for i := range 2 + pick(4) {
		name := "W" + strconv.Itoa(i)
		l = append(l, asm.New(name, "W").Method("run", "()V", 1, text(pick)))
		main = append(main, "new L"+name+";, store 1, load 1, load 2, putf W.a:LObject;, load 1, load 3, putf W.b:LObject;, load 1, load 4, putf W.c:LObject;, load 1, spawn")
	}
	return append(l, asm.New("Main", "Object").Method("main", "()V", 5, strings.Join(main, ", ")+", retv"))
}

// readyOf works out anew which threads can go on.
func readyOf(m *exec.Machine) []int {
	var l []int
	for i := range m.Threads() {
		top, e := m.Calls(i).Peek(0)
		owner, _, held := m.Locks().Owner(top)
		free := e == api.OK && (!held || owner == i)
		if m.State(i) == exec.Ready || m.State(i) == exec.Waits && free || m.State(i) == exec.Hungry && m.Left() > 0 {
			l = append(l, i)
		}
	}
	return l
}

// pickOf works out anew which thread is picked, or why none is.
func pickOf(m *exec.Machine, n int) (int, api.Errno) {
	alive, hungry := 0, 0
	for i := range m.Threads() {
		if m.State(i) != exec.Done {
			alive++
		}
		if m.State(i) == exec.Hungry {
			hungry++
		}
	}
	l := readyOf(m)
	switch {
	case alive == 0:
		return 0, api.ErrState
	case len(l) == 0 && hungry > 0:
		return 0, api.ErrWait
	case len(l) == 0:
		return 0, api.ErrLoop
	}
	for n < 0 {
		n += len(l)
	}
	return l[n%len(l)], api.OK
}

// standing is how a thread stands, and where.
type standing struct{ state, deep, pc int }

// standings answers how all threads stand.
func standings(m *exec.Machine) []standing {
	var l []standing
	for i := range m.Threads() {
		f, _ := m.Calls(i).Top()
		l = append(l, standing{m.State(i), m.Calls(i).Deep(), f.Pc})
	}
	return l
}

// pair is a scheduler, and a machine whose threads go on by the words; both begin alike.
type pair struct {
	world
	by    *exec.Machine
	steps int
	came  map[int]int
	errs  map[api.Errno]int
}

// turn has both go on, and holds that they do so alike.
func (p *pair) turn(n int) {
	p.Helper()
	who, e := pickOf(p.by, n)
	p.pick(n, who, e)
	p.errs[e]++
	came := 0
	for going := e == api.OK; going; {
		came, _ = p.by.Step(who)
		if came != exec.Stuck {
			p.steps++
		}
		going = came == exec.Ran
	}
	if e == api.OK {
		p.came[came]++
	}
	p.world.turn(n, who, came, e)
}

// same holds that both stand alike.
func (p *pair) same() {
	p.Helper()
	p.ready(readyOf(p.by)...)
	if !slices.Equal(p.m.Out(), p.by.Out()) || !slices.Equal(standings(p.m), standings(p.by)) || p.m.Left() != p.by.Left() {
		p.Errorf("Out %q, Left %d, %v, want %q, %d, %v", p.m.Out(), p.m.Left(), standings(p.m), p.by.Out(), p.by.Left(), standings(p.by))
	}
	alive := 0
	for _, s := range standings(p.by) {
		if s.state != exec.Done {
			alive++
		}
	}
	p.counts(alive, p.steps)
}

// stays holds P18.5: what can not go on stands as it did, whatever the others did in a turn; and P18.4: if none can go on, nothing is another thing than before.
func (p *pair) stays(n int) {
	p.Helper()
	ready, before := p.Ready(), standings(p.m)
	p.turn(n)
	for i, s := range before {
		if !slices.Contains(ready, i) && standings(p.m)[i] != s {
			p.Errorf("the thread %d stood %v and could not go on; now it stands %v", i, s, standings(p.m)[i])
		}
	}
}

// begin answers a pair of classes, whose main is under way.
func begin(t testing.TB, l []*asm.Class) *pair {
	t.Helper()
	p := &pair{by: machineOf(t, l...), came: map[int]int{}, errs: map[api.Errno]int{}}
	m := machineOf(t, l...)
	p.world = world{t, sched.New(m), m}
	for _, m := range []*exec.Machine{m, p.by} {
		if _, e := m.Start("Main", "main"); e != api.OK {
			t.Fatalf("Start: error %d", e)
		}
	}
	return p
}

// P18.1 to P18.5: many programs of threads that wait for each other, and for numbers.
func TestRandomThreads(t *testing.T) {
	pick := rand.New(rand.NewPCG(18, 1)).IntN
	came, errs := map[int]int{}, map[api.Errno]int{}
	for range 400 {
		p := begin(t, classes(pick))
		for range 80 {
			switch pick(12) {
			case 0:
				n := int64(pick(9))
				p.m.Feed(n)
				p.by.Feed(n)
			case 1:
				p.m.Collect()
			default:
				p.stays(pick(40) - 20)
			}
			p.same()
			if t.Failed() {
				t.FailNow()
			}
		}
		for c, n := range p.came {
			came[c] += n
		}
		for e, n := range p.errs {
			errs[e] += n
		}
	}
	if came[exec.Paused] < 1000 || came[exec.Stuck] < 500 || came[exec.Ended] < 500 || errs[api.ErrState] < 100 || errs[api.ErrWait] < 100 || errs[api.ErrLoop] < 100 {
		t.Errorf("%v came, and the errors %v", came, errs)
	}
}

// P18.1 to P18.5: of any picks.
func FuzzTurns(f *testing.F) {
	f.Add(uint64(1), []byte("any picks"))
	f.Add(uint64(7), []byte{0, 1, 2, 3, 250, 251, 0, 0, 0, 128})
	f.Fuzz(func(t *testing.T, seed uint64, picks []byte) {
		p := begin(t, classes(rand.New(rand.NewPCG(seed, 18)).IntN))
		for _, n := range picks[:min(len(picks), 200)] {
			if n >= 250 {
				p.m.Feed(int64(n))
				p.by.Feed(int64(n))
			}
			p.stays(int(int8(n)))
			p.same()
		}
	})
}
