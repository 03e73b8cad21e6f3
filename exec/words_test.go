package exec_test

import (
	"math/rand/v2"
	"strconv"
	"strings"
	"testing"

	"hornbook/api"
	"hornbook/asm"
	"hornbook/desc"
	"hornbook/exec"
	"hornbook/ins"
	"hornbook/link"
	"hornbook/table"
)

// picker answers a number from 0 to below another one.
type picker func(below int) int

// writer writes a method whose code can be run: each local has one type, the stack is empty between its parts.
type writer struct {
	*asm.Class
	pick   picker
	code   []api.Ins
	hand   []api.Hand
	locals []string
	gives  string
}

// one answers one of some texts.
func (w *writer) one(l ...string) string {
	return l[w.pick(len(l))]
}

// put writes instructions.
func (w *writer) put(l ...string) {
	for _, text := range l {
		w.code = append(w.code, w.Ins(text))
	}
}

// jump writes one that goes to a place, or to one that is told later.
func (w *writer) jump(op, to int) int {
	w.code = append(w.code, api.Ins{Op: op, A: to})
	return len(w.code) - 1
}

// here tells a jump that it goes here.
func (w *writer) here(jump int) {
	w.code[jump].A = len(w.code)
}

// local answers a local of a type; false, if there is none.
func (w *writer) local(d string) (string, bool) {
	var l []string
	for i, x := range w.locals {
		if x == d {
			l = append(l, strconv.Itoa(i))
		}
	}
	if len(l) == 0 {
		return "", false
	}
	return w.one(l...), true
}

// number writes one that is small, or an edge.
func (w *writer) number() {
	if w.pick(12) == 0 {
		w.put("int " + w.one("-1", "256", "257", "9223372036854775807"))
		return
	}
	w.put("int " + w.one("0", "1", "2", "3", "0", "1", "5"))
}

// expr writes what leaves a value of a type.
func (w *writer) expr(d string, deep int) {
	if local, ok := w.local(d); ok && (deep == 0 || w.pick(3) == 0) {
		w.put("load " + local)
		return
	}
	deep = max(0, deep-1)
	switch d {
	case "I":
		w.int(deep)
	case "B":
		w.truth(deep)
	case "S":
		w.text(deep)
	case "LA;":
		w.thing(deep)
	case "LB;":
		if w.pick(5) > 0 {
			w.put("new LB;")
		} else {
			w.expr("LA;", deep)
			w.put("cast LB;")
		}
	case "LObject;":
		w.expr(w.one("LA;", "LB;", "S", "[I", "[LA;", "LExc;"), deep)
	case "LExc;":
		w.put(w.one("new LE;", "new LF;", "new LDivExc;", "new LExc;", "null"))
	default:
		w.array(d, deep)
	}
}

// int writes what leaves a number.
func (w *writer) int(deep int) {
	switch n := w.pick(13); {
	case deep == 0 || n < 3:
		w.number()
	case n < 6:
		w.expr("I", deep)
		w.expr("I", deep)
		w.put(w.one("add", "sub", "mul", "div", "rem", "add", "sub"))
	case n == 6:
		w.expr("I", deep)
		w.put("neg")
	case n == 7:
		w.expr("LA;", deep)
		w.put("getf A.x:I")
	case n == 8:
		w.expr("[I", deep)
		w.expr("I", deep)
		w.put("aload")
	case n == 9:
		w.expr(w.one("[I", "[LA;"), deep)
		w.put("alen")
	case n == 10:
		w.expr("S", deep)
		w.put("slen")
	case n == 11 && w.pick(3) == 0:
		w.put("read")
	default:
		w.expr("LA;", deep)
		w.expr("I", deep)
		w.put("call A.num:(I)I")
	}
}

// truth writes what leaves a truth.
func (w *writer) truth(deep int) {
	switch n := w.pick(8); {
	case deep == 0 || n < 2:
		w.put(w.one("true", "false"))
	case n < 4:
		w.expr("I", deep)
		w.expr("I", deep)
		w.put(w.one("lt", "le", "eqi"))
	case n == 4:
		w.expr("B", deep)
		w.put("not")
	case n == 5:
		w.expr("B", deep)
		w.expr("B", deep)
		w.put("eqb")
	case n == 6:
		w.expr("LA;", deep)
		w.expr(w.one("LA;", "LObject;"), deep)
		w.put("eqr")
	default:
		w.expr("LObject;", deep)
		w.put("is " + w.one("LA;", "LB;", "[I", "S", "LExc;", "LObject;"))
	}
}

// text writes what leaves a text.
func (w *writer) text(deep int) {
	switch n := w.pick(9); {
	case deep == 0 || n < 4:
		w.put("str " + w.one("", "a", "hello", "12345678", "some thirty bytes and some more"))
	case n == 4 && w.pick(3) == 0:
		w.put("null", "cast S")
	case n < 7:
		w.expr("S", deep)
		w.expr("S", deep)
		w.put("join")
	case n == 7 && w.pick(3) == 0:
		w.expr("LA;", deep)
		w.put("getf A.s:S")
	default:
		w.expr("LA;", deep)
		w.expr("S", deep)
		w.put("call A.txt:(S)S")
	}
}

// thing writes what leaves a thing of A.
func (w *writer) thing(deep int) {
	switch n := w.pick(10); {
	case deep == 0 || n < 4:
		w.put("new " + w.one("LA;", "LB;", "LC;"))
	case n == 4 && w.pick(4) == 0:
		w.put("null")
	case n == 5 && w.pick(3) == 0:
		w.expr("LA;", deep)
		w.put("getf A.next:LA;")
	case n == 6 && w.pick(3) == 0:
		w.expr("[LA;", deep)
		w.expr("I", deep)
		w.put("aload")
	case n == 7 && w.pick(4) == 0:
		w.expr("LObject;", deep)
		w.put("cast LA;")
	default:
		w.expr("LA;", deep)
		w.put("call A.obj:()LA;")
	}
}

// array writes what leaves one.
func (w *writer) array(d string, deep int) {
	switch n := w.pick(6); {
	case deep == 0 || n < 3:
		w.put("int "+w.one("0", "1", "2", "3", "4", "5", "4", "3", "5", "-1", "30"), "arr "+d)
	case n == 3 && w.pick(3) == 0:
		w.put("null", "cast "+d)
	case d == "[I" && w.pick(3) == 0:
		w.expr("LA;", deep)
		w.put("getf A.l:[I")
	case d == "[LA;" && w.pick(3) == 0:
		w.expr("LB;", deep)
		w.put("getf B.list:[LA;")
	default:
		w.put("int 6", "arr "+d)
	}
}

// part writes one, as deep as may be.
func (w *writer) part(deep int) {
	if len(w.code) > 160 {
		return
	}
	switch n := w.pick(24); {
	case n < 6:
		at := w.pick(len(w.locals))
		if at > 0 && w.locals[at] != "" {
			w.expr(w.locals[at], 3)
			w.put("store " + strconv.Itoa(at))
		}
	case n < 9:
		w.write()
	case n < 12:
		d := w.one("I", "B", "S")
		w.expr(d, 3)
		w.put("print")
	case n == 12:
		w.expr(w.one("I", "LA;", "S", "LObject;", "[LA;"), 3)
		w.put("pop")
	case n == 13:
		w.expr("LA;", 2)
		w.expr("LA;", 2)
		w.put("call A.act:(LA;)V")
	case n == 14:
		w.expr("LA;", 2)
		w.put("cast LA;", "spawn")
	case n == 15:
		// A local that has any type, and can be used here alone.
		at := strconv.Itoa(len(w.locals) - 1)
		w.expr(w.one("I", "S", "LA;"), 2)
		w.put("store "+at, "load "+at, "dup", "pop", "pop")
	case n == 16:
		w.unless(func() {
			w.expr("LExc;", 1)
			w.put("throw")
		})
	case n == 17:
		w.unless(w.ret)
	case deep > 0:
		w.block(n, deep-1)
	}
}

// unless writes what is done if something is not so.
func (w *writer) unless(write func()) {
	w.expr("B", 3)
	over := w.jump(api.JumpT, 0)
	write()
	w.here(over)
	w.put("nop")
}

// write writes what writes into a thing.
func (w *writer) write() {
	switch w.pick(7) {
	case 0, 1:
		w.expr("LA;", 2)
		w.expr("LA;", 2)
		w.put("putf A.next:LA;")
	case 2:
		w.expr("LA;", 2)
		w.expr("S", 2)
		w.put("putf A.s:S")
	case 3:
		w.expr("LA;", 2)
		w.expr("[I", 2)
		w.put("putf A.l:[I")
	case 4:
		w.expr("LB;", 2)
		w.expr("[LA;", 2)
		w.put("putf B.list:[LA;")
	case 5:
		w.expr("[LA;", 2)
		w.expr("I", 2)
		w.expr("LA;", 2)
		w.put("astore")
	default:
		w.expr("[I", 2)
		w.expr("I", 2)
		w.expr("I", 2)
		w.put("astore")
	}
}

// parts writes some.
func (w *writer) parts(deep int) {
	for range 1 + w.pick(3) {
		w.part(deep)
	}
}

// block writes parts that are done, or not, or again, or caught, or locked.
func (w *writer) block(n, deep int) {
	switch n % 5 {
	case 0:
		w.expr("B", 2)
		over := w.jump(w.pick(2)+api.JumpT, 0)
		w.parts(deep)
		w.here(over)
	case 1:
		at := len(w.code)
		w.expr("B", 2)
		over := w.jump(api.JumpF, 0)
		w.parts(deep)
		w.jump(api.Jump, at)
		w.here(over)
	case 2:
		w.expr(w.one("LObject;", "LA;", "LA;"), 1)
		if w.pick(4) > 0 {
			w.put("dup", "enter")
		}
		w.put("exit")
	case 3:
		local, ok := w.local(w.one("LA;", "LObject;"))
		if ok {
			w.put("load "+local, "enter")
			w.parts(deep)
			w.put("load "+local, "exit")
		}
	default:
		w.try(deep)
	}
}

// try writes parts, and where what they throw goes to.
func (w *writer) try(deep int) {
	from := len(w.code)
	w.put("nop")
	w.parts(deep)
	to := len(w.code) - w.pick(2)
	over := w.jump(api.Jump, 0)
	at := len(w.code)
	if local, ok := w.local("LExc;"); ok && w.pick(2) == 0 {
		w.put("store " + local)
	} else {
		w.put(w.one("pop", "throw"))
	}
	w.parts(deep)
	w.here(over)
	w.put("nop")
	if len(w.hand) < 7 && from < to {
		w.hand = append(w.hand, api.Hand{From: from, To: to, At: at, Class: w.one("Exc", "Exc", "Exc", "NullExc", "IndexExc", "MemExc", "E", "DivExc", "StackExc")})
	}
}

// ret writes the method's end.
func (w *writer) ret() {
	if w.gives == "V" {
		w.put("retv")
		return
	}
	w.expr(w.gives, 2)
	w.put("ret")
}

// random writes methods at random, each a name and what it takes and gives.
func random(pick picker, c *asm.Class, methods ...string) *asm.Class {
	for _, text := range methods {
		name, sig, _ := strings.Cut(text, " ")
		gives, takes, _ := desc.Split(sig)
		w := &writer{Class: c, pick: pick, gives: gives, locals: append([]string{""}, takes...)}
		if c.Super == "A" || c.Name == "A" {
			w.locals[0] = "LA;"
		}
		w.method(name)
		c.Methods = append(c.Methods, api.Method{Name: name, Sig: sig, Locals: len(w.locals), Code: w.code, Hand: w.hand})
	}
	return c
}

// method writes all of one.
func (w *writer) method(name string) {
	if name == "act" && w.pick(3) == 0 {
		// Deeper and deeper.
		w.put("load", "load 1", "call A.act:(LA;)V")
	}
	for range 2 + w.pick(5) {
		d := w.one("I", "B", "S", "LA;", "LA;", "LB;", "LObject;", "[I", "[LA;", "LExc;")
		w.expr(d, w.pick(2))
		w.put("store " + strconv.Itoa(len(w.locals)))
		w.locals = append(w.locals, d)
	}
	w.locals = append(w.locals, "")
	from := len(w.code)
	if name == "main" {
		w.parts(3)
	}
	w.parts(3)
	if name == "main" {
		// It goes on and on, whatever is thrown.
		w.jump(api.Jump, from)
		w.hand = append(w.hand, api.Hand{From: from, To: len(w.code), At: len(w.code), Class: w.one("Exc", "Exc", "Exc", "NullExc")})
		w.put("pop")
		w.jump(api.Jump, from)
	} else {
		w.ret()
	}
}

// randomClasses answers classes whose code can be run.
func randomClasses(pick picker) []*asm.Class {
	main := random(pick, asm.New("Main", "Object"), "main ()V")
	a := random(pick, asm.New("A", "Object", "x I", "next LA;", "s S", "l [I"), "num (I)I", "txt (S)S", "obj ()LA;", "act (LA;)V", "run ()V")
	b := random(pick, asm.New("B", "A", "ok B", "list [LA;"), "run ()V", "num (I)I")
	c := random(pick, asm.New("C", "A"), "txt (S)S", "obj ()LA;")
	return []*asm.Class{b, main, c, asm.New("E", "Exc", "why I"), asm.New("F", "IndexExc"), a}
}

// twin is a machine, and what it is by the words.
type twin struct {
	world
	m *model
	y *link.Types
}

// twinOf answers one of classes, with no thread.
func twinOf(t testing.TB, words int, l ...*asm.Class) twin {
	t.Helper()
	y := link.NewTypes()
	p := progOf(t, y, l...)
	m, e := exec.New(p, words)
	if e != api.OK {
		t.Fatalf("New: error %d", e)
	}
	return twin{world{t, m}, modelOf(t, p.Table(), words), y}
}

// start starts a thread in both.
func (w twin) start(class, name string) {
	w.Helper()
	want, wantE := len(w.m.threads), w.m.start(class, name)
	if wantE != api.OK {
		want = 0
	}
	w.world.start(class, name, want, wantE)
}

// step does a thread's next instruction in both.
func (w twin) step(i int) {
	w.Helper()
	if w.m.threads[i].state == exec.Done {
		if came, e := w.Step(i); came != 0 || e != api.ErrState {
			w.Errorf("Step(%d) = %d, error %d", i, came, e)
		}
		return
	}
	want := w.m.step(i)
	if came, e := w.Step(i); came != want || e != api.OK {
		w.Errorf("Step(%d) = %d, error %d, want %d", i, came, e, want)
	}
}

// feed has a number wait in both.
func (w twin) feed(n int64) {
	w.Helper()
	want := api.ErrFull
	if len(w.m.input) < 64 {
		w.m.input, want = append(w.m.input, n), api.OK
	}
	w.did("Feed", w.Feed(n), want)
}

// take has the machine take another program of the same classes, and a heap in which all stands elsewhere.
func (w twin) take() {
	w.Helper()
	p, e := link.New(w.Prog().Table(), w.y)
	if e != api.OK {
		w.Fatalf("link.New: error %d", e)
	}
	h, now := w.moved()
	w.did("Take", w.Take(p, h, now...), api.OK)
}

// pairs is which address is of which thing.
type pairs struct {
	twin
	to   map[int64]*thing
	from map[*thing]int64
	next []int64
}

// pair holds that an address is of a thing that fits a type.
func (p *pairs) pair(at int64, x *thing, d string) {
	p.Helper()
	y, ok := p.to[at]
	if ok != (y == x && p.from[x] == at) || !ok && p.from[x] != 0 {
		p.Errorf("the address %d is not of %v", at, x)
		return
	}
	if x != nil && !p.m.t.Hier().Sub(x.d, d) {
		p.Errorf("a thing of %s stands where %s should", x.d, d)
	}
	if !ok {
		p.to[at], p.from[x] = x, at
		p.next = append(p.next, at)
	}
}

// value holds that a word is what a value is, of a type ("": any).
func (p *pairs) value(v int64, want value, d string) {
	p.Helper()
	switch {
	case d == "":
	case isRef(d):
		p.pair(v, want.at, d)
	case v != want.n || d == "B" && v != 0 && v != 1:
		p.Errorf("it is %d, want %d", v, want.n)
	}
}

// words holds that a thing's words are what they should be.
func (p *pairs) words(at int64) {
	p.Helper()
	x, h := p.to[at], p.Heap()
	id, _ := h.Type(at)
	size, _ := h.Size(at)
	if p.Prog().Types().Name(id) != x.d || 1+size != x.size() {
		p.Errorf("at %d there is a thing of %q, and of %d words, want %q, %d", at, p.Prog().Types().Name(id), size, x.d, x.size()-1)
		return
	}
	if x.d == "S" {
		if s, e := h.Bytes(at); s != x.text || e != api.OK {
			p.Errorf("at %d there is %q, want %q", at, s, x.text)
		}
		return
	}
	for i, want := range x.words {
		d, place := x.d[1:], i+1
		if x.d[0] == 'L' {
			d, place = p.m.t.Layout(classOf(x))[i].Desc, i
		}
		v, _ := h.Get(at, place)
		p.value(v, want, d)
	}
}

// same holds that the machine is what it is by the words.
func (w twin) same() {
	w.Helper()
	w.wrote(w.m.out...)
	if w.Threads() != len(w.m.threads) || w.Left() != len(w.m.input) || w.Live() != w.m.live() || w.Heap().Used() > w.m.words {
		w.Errorf("Threads %d, Left %d, Live %d, want %d, %d, %d", w.Threads(), w.Left(), w.Live(), len(w.m.threads), len(w.m.input), w.m.live())
	}
	p := &pairs{twin: w, to: map[int64]*thing{0: nil}, from: map[*thing]int64{nil: 0}}
	roots, want := w.Roots(), w.m.roots()
	if len(roots) != len(want) {
		w.Fatalf("%d Roots, want %d", len(roots), len(want))
	}
	for i, at := range roots {
		p.pair(at, want[i], "LObject;")
	}
	for i, g := range w.m.threads {
		w.stands(i, g.state, g.end)
		w.calls(p, i, g.calls)
	}
	for ; len(p.next) > 0; p.next = p.next[1:] {
		p.words(p.next[0])
	}
	for i, h := range w.m.held {
		at := w.Locks().Held()[i]
		if who, times, ok := w.Locks().Owner(at); p.to[at] != h.at || who != h.who || times != h.times || !ok {
			w.Errorf("Owner(%d) = %d, %d, %v, want %d, %d", at, who, times, ok, h.who, h.times)
		}
	}
}

// calls holds that a thread's calls are what they are by the words; and P17.6: what stands there is what chapter 10 says.
func (w twin) calls(p *pairs, i int, want []*called) {
	w.Helper()
	l := w.Calls(i).All()
	if len(l) != len(want) {
		w.Fatalf("the thread %d has %d calls, want %d", i, len(l), len(want))
	}
	for i, f := range l {
		c := want[i]
		x, _ := w.Prog().Code(f.Code)
		at := c.r.At[c.pc]
		if x.Class != c.c.Name || x.Name != c.m.Name || f.Pc != c.pc || len(f.Locals) != len(c.locals) || len(f.Stack) != len(c.stack) || i == len(l)-1 && len(f.Stack) != len(at.Stack) {
			w.Fatalf("the call %d is %s.%s at %d: %v, want %s.%s at %d", i, x.Class, x.Name, f.Pc, f, c.c.Name, c.m.Name, c.pc)
		}
		for j, v := range f.Locals {
			p.value(v, c.locals[j], at.Locals[j])
		}
		for j, v := range f.Stack {
			p.value(v, c.stack[j], at.Stack[j])
		}
	}
}

// act does something to both.
func (w twin) act(pick picker) {
	w.Helper()
	switch n := pick(40); {
	case n < 4:
		w.feed(int64(pick(9)) - 2)
	case n < 7:
		live := w.m.live()
		w.did("Collect", w.Collect(), api.OK)
		w.uses(live, live)
	case n == 7:
		w.take()
	case n == 8:
		w.start([]string{"Main", "A", "B", "C", "E", "Z"}[pick(6)], []string{"main", "run", "num"}[pick(3)])
	default:
		if w.m.alive() == 0 {
			w.start("Main", "main")
			return
		}
		i := pick(len(w.m.threads))
		for range 1 + pick(30) {
			w.step(i)
		}
	}
}

// tally counts what came in many machines.
type tally struct {
	ops, came map[int]int
	thrown    map[string]int
	full      int
}

// add counts what came in one.
func (l *tally) add(m *model) {
	for op, n := range m.ops {
		l.ops[op] += n
	}
	for came, n := range m.came {
		l.came[came] += n
	}
	for class, n := range m.thrown {
		l.thrown[class] += n
	}
	l.full += m.full
}

// P17.1 to P17.6, P1 and P2 of the document: many programs do what they do by the words, where nothing is moved or gone.
func TestRandomPrograms(t *testing.T) {
	pick := rand.New(rand.NewPCG(17, 1)).IntN
	l := &tally{map[int]int{}, map[int]int{}, map[string]int{}, 0}
	for range 350 {
		w := twinOf(t, 16+pick(200), randomClasses(pick)...)
		for range 70 {
			w.act(pick)
			w.same()
			if t.Failed() {
				t.Fatalf("with %d words, behind %q", w.m.words, w.m.out)
			}
		}
		l.add(w.m)
	}
	for op := range api.Old {
		if l.ops[op] < 50 {
			t.Errorf("just %d %s were done", l.ops[op], ins.Name(op))
		}
	}
	for _, class := range []string{"NullExc", "CastExc", "IndexExc", "DivExc", "StackExc", "MemExc", "LockExc", "E", "F", "Exc"} {
		if l.thrown[class] < 10 {
			t.Errorf("just %d of %s were thrown", l.thrown[class], class)
		}
	}
	if l.came[exec.Ran] < 10000 || l.came[exec.Paused] < 1000 || l.came[exec.Stuck] < 200 || l.came[exec.Ended] < 200 || l.full < 200 {
		t.Errorf("%v came; %d times there was no room", l.came, l.full)
	}
}

// P17.1 to P17.6: whatever code can be run does what the words say.
func FuzzStep(f *testing.F) {
	f.Add([]byte{6, 0, 25, 5, 8, 0, 34, 0}, uint8(20), uint64(1))
	f.Add([]byte("any bytes at all, that are instructions"), uint8(90), uint64(2))
	f.Fuzz(func(t *testing.T, bytes []byte, words uint8, seed uint64) {
		pick := rand.New(rand.NewPCG(seed, 17)).IntN
		l := randomClasses(pick)
		main := l[1]
		m := api.Method{Name: "main", Sig: "()V", Locals: 5}
		for i := 0; i+1 < len(bytes) && len(m.Code) < api.MaxCode; i += 2 {
			m.Code = append(m.Code, api.Ins{Op: int(bytes[i]) % api.Old, A: int(bytes[i+1])})
		}
		main.Methods[0] = m
		classes, _ := asm.Classes(l...)
		x, _, e := table.New(classes...)
		if e != api.OK {
			return
		}
		if _, e := link.New(x, link.NewTypes()); e != api.OK {
			return
		}
		w := twinOf(t, 16+int(words), l...)
		for range 60 {
			w.act(pick)
			w.same()
		}
	})
}
