package vm_test

import (
	"math/rand/v2"
	"slices"
	"strconv"
	"strings"
	"testing"

	"hornbook/api"
	"hornbook/asm"
	"hornbook/exec"
	"hornbook/link"
	"hornbook/sched"
	"hornbook/table"
	"hornbook/vm"
)

// picker answers a number from 0 to below another one.
type picker func(below int) int

// part answers code that leaves the stack as it was. A MemExc is thrown by it for want of room alone.
func part(pick picker) string {
	box := "load, getf W.box:LBox;, "
	n := strconv.Itoa(pick(5))
	switch pick(17) {
	case 0, 1:
		return "int " + n + ", print"
	case 2:
		return "read, print"
	case 3:
		return box + box + "getf Box.n:I, int " + n + ", add, putf Box.n:I, " + box + "getf Box.n:I, print"
	case 4:
		return "int 2" + n + ", arr [I, pop"
	case 5:
		return box + "int 1" + n + ", arr [I, putf Box.l:[I, " + box + "getf Box.l:[I, alen, print"
	case 6:
		return "str ab, str some more, join, dup, print, slen, print"
	case 7, 15:
		return box + "new LBox;, dup, " + box + "getf Box.next:LBox;, putf Box.next:LBox;, putf Box.next:LBox;"
	case 8, 9:
		return "load, getf W.lock:LObject;, enter"
	case 10, 11:
		return "load, getf W.lock:LObject;, exit"
	case 12:
		return "int 7, " + box + "getf Box.n:I, int 3, rem, div, print"
	case 13:
		return "load, call W.no:()V"
	}
	return box + "str new, putf Box.s:S, " + box + "getf Box.s:S, " + box + "getf Box.s:S, eqr, print"
}

// thread writes a method run, that ends or goes on for ever; just what is no want of room is caught.
func thread(pick picker, c *asm.Class) *asm.Class {
	var l []string
	for range 1 + pick(9) {
		l = append(l, part(pick))
	}
	text := "@a nop, " + strings.Join(l, ", ") + ", @b "
	if pick(2) == 0 {
		text += "jump @a, @h pop, jump @a"
	} else {
		text += "retv, @h pop, retv"
	}
	var hand []string
	for _, class := range []string{"DivExc", "LockExc"} {
		if pick(2) == 0 {
			hand = append(hand, "@a @b @h "+class)
		}
	}
	return c.Method("run", "()V", 2, text, hand...)
}

// random answers classes of a program whose main begins some threads, that have things in common.
func random(pick picker) []*asm.Class {
	l := []*asm.Class{
		asm.New("Box", "Object", "n I", "s S", "l [I", "next LBox;"),
		asm.New("W", "Object", "box LBox;", "lock LObject;").Method("no", "()V", 1, "retv").Method("run", "()V", 1, "retv"),
	}
	main := []string{"new LBox;, store 2, new LObject;, store 3"}
	for i := range 1 + pick(5) {
		name := "W" + strconv.Itoa(i)
		l = append(l, thread(pick, asm.New(name, "W")))
		main = append(main, "new L"+name+";, store 1, load 1, load 2, putf W.box:LBox;, load 1, load 3, putf W.lock:LObject;, load 1, spawn")
	}
	return append(l, asm.New("Main", "Object").Method("main", "()V", 4, strings.Join(main, ", ")+", retv"))
}

// model is what a program tells by the words: step by step, of a machine beside.
type model struct {
	m     *exec.Machine
	s     *sched.Sched
	lines []vm.Line
}

// modelOf answers one of classes, whose main is under way.
func modelOf(t testing.TB, words int, l []api.Class) *model {
	t.Helper()
	x, _, _ := table.New(l...)
	p, _ := link.New(x, link.NewTypes())
	m, e := exec.New(p, words)
	if e != api.OK {
		t.Fatalf("exec.New: error %d", e)
	}
	m.Start("Main", "main")
	return &model{m: m, s: sched.New(m)}
}

// turn goes on until a thread pauses.
func (x *model) turn(n int) api.Errno {
	who, e := x.s.Pick(n)
	dead := slices.ContainsFunc(x.lines, func(l vm.Line) bool { return l.Kind == vm.Dead })
	if e == api.ErrLoop && !dead {
		x.lines = append(x.lines, vm.Line{Kind: vm.Dead})
	}
	for came := exec.Ran; came == exec.Ran && e == api.OK; {
		before := x.m.Out()
		came, e = x.m.Step(who)
		for _, s := range x.m.Out()[len(before):] {
			x.lines = append(x.lines, vm.Line{Kind: vm.Wrote, Thread: who, Text: s})
		}
		if came == exec.Ended {
			x.lines = append(x.lines, vm.Line{Kind: vm.Ended, Thread: who, Text: x.m.End(who)})
		}
	}
	return e
}

// act is what is done to a program: a turn, or a number that is fed.
type act struct {
	feed bool
	n    int
}

// acts answers some.
func acts(pick picker, many int) []act {
	var l []act
	for range many {
		l = append(l, act{pick(6) == 0, pick(60) - 30})
	}
	return l
}

// told is what a program told: its lines, and what each act answered.
type told struct {
	lines []vm.Line
	came  []api.Errno
}

// wants tells whether something was thrown for want of room.
func (x told) wants() bool {
	return slices.ContainsFunc(x.lines, func(l vm.Line) bool { return l.Kind == vm.Ended && l.Text == "MemExc" })
}

// same tells whether two told the same.
func (x told) same(y told) bool {
	return slices.Equal(x.lines, y.lines) && slices.Equal(x.came, y.came)
}

// does does all acts to a program that begins, and collects its heap ahead of some.
func does(t testing.TB, words int, classes []api.Class, l []act, collects func() bool) told {
	t.Helper()
	v, name, e := vm.New(words, classes...)
	if e != api.OK {
		t.Fatalf("New = %q, error %d", name, e)
	}
	var x told
	for _, a := range l {
		if collects() {
			if e := v.Sched().Machine().Collect(); e != api.OK {
				t.Errorf("Collect: error %d", e)
			}
		}
		if a.feed {
			x.came = append(x.came, v.Feed(int64(a.n)))
		} else {
			x.came = append(x.came, v.Turn(a.n))
		}
	}
	x.lines = v.Trace()
	return x
}

// never has the heap collected by itself alone.
func never() bool { return false }

// byWords answers what a program tells by the words.
func byWords(t testing.TB, words int, classes []api.Class, l []act) told {
	t.Helper()
	m := modelOf(t, words, classes)
	var x told
	for _, a := range l {
		if a.feed {
			x.came = append(x.came, m.m.Feed(int64(a.n)))
		} else {
			x.came = append(x.came, m.turn(a.n))
		}
	}
	x.lines = m.lines
	return x
}

// holdTrace holds what a program tells: by the words, however often the heap is collected, and whatever words it has.
func holdTrace(t testing.TB, pick picker, classes []api.Class, l []act) (whole, small told) {
	t.Helper()
	whole = byWords(t, api.MaxHeap, classes, l)
	for _, words := range []int{60 + pick(400), 24 + pick(60), api.MaxHeap} {
		want := byWords(t, words, classes, l)
		if !want.wants() && !want.same(whole) {
			t.Errorf("with %d words it tells %v, want %v", words, want, whole)
		}
		if got := does(t, words, classes, l, never); !got.same(want) {
			t.Errorf("with %d words it tells %v, want %v", words, got, want)
		}
		often := 1 + pick(5)
		if got := does(t, words, classes, l, func() bool { return pick(often) == 0 }); !got.same(want) {
			t.Errorf("collected it tells %v, want %v", got, want)
		}
		if words < api.MaxHeap {
			small = want
		}
	}
	return whole, small
}

// P19.2, P19.4, P19.5: many programs of threads that write, read, make things, wait for each other, and end.
func TestRandomPrograms(t *testing.T) {
	pick := rand.New(rand.NewPCG(19, 1)).IntN
	kinds, came, ends := map[int]int{}, map[api.Errno]int{}, map[string]int{}
	for range 250 {
		classes := classesOf(t, random(pick)...)
		whole, small := holdTrace(t, pick, classes, acts(pick, 80))
		if t.Failed() {
			t.Fatalf("of %v", classes)
		}
		for _, x := range []told{whole, small} {
			for _, l := range x.lines {
				kinds[l.Kind]++
				if l.Kind == vm.Ended {
					ends[l.Text]++
				}
			}
			for _, e := range x.came {
				came[e]++
			}
		}
	}
	if kinds[vm.Wrote] < 5000 || kinds[vm.Ended] < 500 || kinds[vm.Dead] < 20 || came[api.ErrWait] < 200 || came[api.ErrLoop] < 200 || came[api.ErrState] < 200 || ends["MemExc"] < 50 || ends["DivExc"] < 50 || ends[""] < 200 {
		t.Errorf("the lines %v, the errors %v, ends by %v", kinds, came, ends)
	}
}

// P19.3: Run is Turn of each, up to the first error.
func TestRandomRuns(t *testing.T) {
	pick := rand.New(rand.NewPCG(19, 3)).IntN
	whole := 0
	for range 150 {
		classes := classesOf(t, random(pick)...)
		v, _, e := vm.New(200, classes...)
		if e != api.OK {
			t.Fatalf("New: error %d", e)
		}
		w, m := world{t, v}, modelOf(t, 200, classes)
		for range 12 {
			var picks []int
			for range pick(12) {
				picks = append(picks, pick(20)-10)
			}
			want, wantE := 0, api.OK
			for _, n := range picks {
				if wantE = m.turn(n); wantE != api.OK {
					break
				}
				want++
			}
			if want == len(picks) && want > 0 {
				whole++
			}
			w.run(want, wantE, picks...)
			w.tells(shown(m.lines)...)
			w.feed(int64(want), m.m.Feed(int64(want)))
		}
	}
	if whole < 200 || whole > 1500 {
		t.Errorf("%d were done whole", whole)
	}
}

// P19.1 to P19.5: of any programs, picks and numbers.
func FuzzTrace(f *testing.F) {
	f.Add(uint64(1), []byte("any picks and numbers"))
	f.Add(uint64(7), []byte{0, 1, 2, 3, 250, 251, 0, 0, 0, 128})
	f.Fuzz(func(t *testing.T, seed uint64, bytes []byte) {
		pick := rand.New(rand.NewPCG(seed, 19)).IntN
		var l []act
		for _, n := range bytes[:min(len(bytes), 200)] {
			l = append(l, act{n >= 220, int(int8(n))})
		}
		holdTrace(t, pick, classesOf(t, random(pick)...), l)
	})
}
