package exec_test

import (
	"slices"
	"strconv"
	"strings"
	"testing"

	"hornbook/api"
	"hornbook/exec"
	"hornbook/table"
	"hornbook/verify"
)

// thing is one that is never moved: its type, its fields or elements, or its bytes.
type thing struct {
	d     string
	words []value
	text  string
}

// value is a number or a truth, or a thing; nil is null.
type value struct {
	n  int64
	at *thing
}

// called is a call of a class's own method, with what holds in it.
type called struct {
	c             api.Class
	m             api.Method
	r             verify.Report
	pc            int
	locals, stack []value
}

// going is a thread.
type going struct {
	calls []*called
	state int
	end   string
}

// holding is a thing that is held.
type holding struct {
	at         *thing
	who, times int
}

// model is a machine by the chapter's words alone, by names, whose things are never moved and never gone.
type model struct {
	testing.TB
	t       *table.Table
	words   int
	reports map[table.Entry]verify.Report
	always  []*thing
	held    []*holding
	threads []*going
	input   []int64
	out     []string
	// How often what was done, thrown and come of it.
	ops    map[int]int
	thrown map[string]int
	came   map[int]int
	full   int
}

// modelOf answers one of a table, whose heap has so many words.
func modelOf(t testing.TB, x *table.Table, words int) *model {
	m := &model{TB: t, t: x, words: words, reports: map[table.Entry]verify.Report{}, ops: map[int]int{}, thrown: map[string]int{}, came: map[int]int{}}
	for _, name := range []string{"NullExc", "CastExc", "IndexExc", "DivExc", "StackExc", "MemExc", "LockExc"} {
		m.always = append(m.always, &thing{d: "L" + name + ";"})
	}
	return m
}

// isRef tells whether a type is one of things, by chapter 2's words.
func isRef(d string) bool {
	return d == "S" || d == "N" || strings.HasPrefix(d, "[") || strings.HasPrefix(d, "L")
}

// roots answers all things that are held, null among them.
func (m *model) roots() []*thing {
	l := slices.Clone(m.always)
	for _, h := range m.held {
		l = append(l, h.at)
	}
	for _, g := range m.threads {
		for _, c := range g.calls {
			for i, v := range c.locals {
				if isRef(c.r.At[c.pc].Locals[i]) {
					l = append(l, v.at)
				}
			}
			for i, v := range c.stack {
				if isRef(c.r.At[c.pc].Stack[i]) {
					l = append(l, v.at)
				}
			}
		}
	}
	return l
}

// size answers how many words a thing has, its first one too.
func (x *thing) size() int {
	switch x.d[0] {
	case 'L':
		return 1 + len(x.words)
	case 'S':
		return 2 + (len(x.text)+7)/8
	}
	return 2 + len(x.words)
}

// live answers how many words can be come to.
func (m *model) live() int {
	met := map[*thing]bool{nil: true}
	n := 0
	for l := m.roots(); len(l) > 0; l = l[1:] {
		if x := l[0]; !met[x] {
			met[x] = true
			n += x.size()
			for _, v := range x.words {
				l = append(l, v.at)
			}
		}
	}
	return n
}

// room answers a thing, if there is room for it.
func (m *model) room(x *thing) *thing {
	if m.live()+x.size() > m.words {
		m.full++
		return nil
	}
	return x
}

// fresh answers a thing of a class, if there is room for it.
func (m *model) fresh(d string) *thing {
	return m.room(&thing{d: d, words: make([]value, len(m.t.Layout(d[1:len(d)-1])))})
}

// call begins a call of the method that a class has by a name.
func (m *model) call(g *going, class, name string, takes ...value) {
	m.Helper()
	x, _ := m.t.Method(class, name)
	own, ok := m.t.Code(x.Class, name)
	if !ok {
		m.Fatalf("%s has no method %s", class, name)
	}
	c, _ := m.t.Class(x.Class)
	r, ok := m.reports[x]
	if !ok {
		r, _ = verify.Method(m.t, x.Class, name)
		m.reports[x] = r
	}
	g.calls = append(g.calls, &called{c: c, m: own, r: r, locals: append(takes, make([]value, own.Locals-len(takes))...)})
}

// alive answers how many threads are not Done.
func (m *model) alive() int {
	n := 0
	for _, g := range m.threads {
		if g.state != exec.Done {
			n++
		}
	}
	return n
}

// start begins a thread, with a method of a new thing, if that can be.
func (m *model) start(class, name string) api.Errno {
	x, at := m.t.Method(class, name)
	if at < 0 || x.Sig != "()V" {
		return api.ErrNone
	}
	if m.alive() == 8 {
		return api.ErrBusy
	}
	new := m.fresh("L" + class + ";")
	if new == nil {
		return api.ErrFull
	}
	m.spawn(class, name, new)
	return api.OK
}

// spawn begins a thread, with a method of a thing.
func (m *model) spawn(class, name string, of *thing) {
	g := &going{}
	m.call(g, class, name, value{at: of})
	m.threads = append(m.threads, g)
}

// doing is an instruction that is done: of the thread i, the call c that is at work; next and came are what comes of it if nothing else is said.
type doing struct {
	*model
	g    *going
	i    int
	c    *called
	next int
	came int
}

// step does a thread's next instruction, and answers what came of it.
func (m *model) step(i int) int {
	m.Helper()
	g := m.threads[i]
	c := g.calls[len(g.calls)-1]
	d := &doing{m, g, i, c, c.pc + 1, exec.Ran}
	x := c.m.Code[c.pc]
	var k api.Const
	if x.A < len(c.c.Consts) {
		k = c.c.Consts[x.A]
	}
	g.state = exec.Ready
	m.ops[x.Op]++
	stack := slices.Clone(c.stack)
	switch thrown := d.do(x, k); {
	case thrown != nil:
		d.throw(thrown)
	case d.came == exec.Stuck:
		c.stack = stack
	default:
		c.pc = d.next
	}
	m.came[d.came]++
	return d.came
}

// pop takes the top value.
func (d *doing) pop() value {
	v := d.c.stack[len(d.c.stack)-1]
	d.c.stack = d.c.stack[:len(d.c.stack)-1]
	return v
}

// push leaves a value.
func (d *doing) push(v value) *thing {
	d.c.stack = append(d.c.stack, v)
	return nil
}

// number and truth leave these.
func (d *doing) number(n int64) *thing { return d.push(value{n: n}) }
func (d *doing) truth(is bool) *thing {
	if is {
		return d.number(1)
	}
	return d.number(0)
}

// exc answers the thing of a class that is there always.
func (d *doing) exc(class string) *thing {
	return d.always[slices.IndexFunc(d.always, func(x *thing) bool { return x.d == "L"+class+";" })]
}

// do does an instruction, and answers what is thrown.
func (d *doing) do(x api.Ins, k api.Const) *thing {
	switch x.Op {
	case api.Nop:
	case api.Int:
		return d.number(k.N)
	case api.True, api.False:
		return d.truth(x.Op == api.True)
	case api.Null:
		return d.push(value{})
	case api.Load:
		return d.push(d.c.locals[x.A])
	case api.Store:
		d.c.locals[x.A] = d.pop()
	case api.Pop:
		d.pop()
	case api.Dup:
		v := d.pop()
		d.push(v)
		return d.push(v)
	case api.Neg:
		return d.number(-d.pop().n)
	case api.Not:
		return d.truth(d.pop().n == 0)
	case api.EqR:
		return d.truth(d.pop().at == d.pop().at)
	case api.Add, api.Sub, api.Mul, api.Div, api.Rem, api.Lt, api.Le, api.EqI, api.EqB:
		return d.reckon(x.Op)
	case api.Jump, api.JumpT, api.JumpF:
		d.jump(x)
	case api.Print, api.Read:
		return d.speak(x.Op)
	case api.Call, api.Ret, api.RetV, api.Throw, api.Spawn:
		return d.calling(x.Op, k)
	case api.Enter, api.Exit:
		return d.lock(x.Op)
	default:
		return d.things(x.Op, k)
	}
	return nil
}

// reckon does what takes two numbers.
func (d *doing) reckon(op int) *thing {
	b, a := d.pop().n, d.pop().n
	switch op {
	case api.Add:
		return d.number(a + b)
	case api.Sub:
		return d.number(a - b)
	case api.Mul:
		return d.number(a * b)
	case api.Lt:
		return d.truth(a < b)
	case api.Le:
		return d.truth(a <= b)
	case api.EqI, api.EqB:
		return d.truth(a == b)
	}
	if b == 0 {
		return d.exc("DivExc")
	}
	if op == api.Div {
		return d.number(a / b)
	}
	return d.number(a % b)
}

// jump does what may go elsewhere.
func (d *doing) jump(x api.Ins) {
	if x.Op == api.Jump || (d.pop().n == 1) == (x.Op == api.JumpT) {
		d.next = x.A
		if x.A <= d.c.pc {
			d.came = exec.Paused
		}
	}
}

// speak writes, or reads.
func (d *doing) speak(op int) *thing {
	if op == api.Read {
		if len(d.input) == 0 {
			d.g.state, d.came = exec.Hungry, exec.Stuck
			return nil
		}
		n := d.input[0]
		d.input = d.input[1:]
		return d.number(n)
	}
	at := d.c.r.At[d.c.pc].Stack
	v := d.pop()
	switch at[len(at)-1] {
	case "I":
		d.out = append(d.out, strconv.FormatInt(v.n, 10))
	case "B":
		d.out = append(d.out, strconv.FormatBool(v.n == 1))
	default:
		if v.at == nil {
			return d.exc("NullExc")
		}
		d.out = append(d.out, v.at.text)
	}
	return nil
}

// calling does what begins or ends calls.
func (d *doing) calling(op int, k api.Const) *thing {
	switch op {
	case api.Call:
		n := takesOf(k.U)
		l := slices.Clone(d.c.stack[len(d.c.stack)-n:])
		if l[0].at == nil {
			return d.exc("NullExc")
		}
		if len(d.g.calls) == 32 {
			return d.exc("StackExc")
		}
		d.c.stack = d.c.stack[:len(d.c.stack)-n]
		d.call(d.g, classOf(l[0].at), k.T, l...)
		d.came = exec.Paused
	case api.Ret, api.RetV:
		d.back(op == api.Ret)
	case api.Throw:
		if at := d.pop().at; at != nil {
			return at
		}
		return d.exc("NullExc")
	case api.Spawn:
		at := d.pop().at
		if at == nil {
			return d.exc("NullExc")
		}
		if d.alive() == 8 {
			return d.exc("MemExc")
		}
		d.spawn(classOf(at), "run", at)
	}
	return nil
}

// back ends the call at work.
func (d *doing) back(gives bool) {
	var v value
	if gives {
		v = d.pop()
	}
	d.g.calls = d.g.calls[:len(d.g.calls)-1]
	if len(d.g.calls) == 0 {
		d.g.state, d.came = exec.Done, exec.Ended
		return
	}
	if gives {
		c := d.g.calls[len(d.g.calls)-1]
		c.stack = append(c.stack, v)
	}
}

// lock does Enter and Exit.
func (d *doing) lock(op int) *thing {
	at := d.pop().at
	if at == nil {
		return d.exc("NullExc")
	}
	i := slices.IndexFunc(d.held, func(h *holding) bool { return h.at == at })
	switch {
	case op == api.Enter && i < 0:
		d.held = append(d.held, &holding{at, d.i, 1})
	case op == api.Enter && d.held[i].who != d.i:
		d.g.state, d.came = exec.Waits, exec.Stuck
	case op == api.Enter:
		d.held[i].times++
	case i < 0 || d.held[i].who != d.i:
		return d.exc("LockExc")
	default:
		d.held[i].times--
		if d.held[i].times == 0 {
			d.held = slices.Delete(d.held, i, i+1)
		}
	}
	return nil
}

// classOf answers the class that a thing is of.
func classOf(at *thing) string {
	return at.d[1 : len(at.d)-1]
}

// takesOf answers how many values a method takes, itself too, by chapter 2's words.
func takesOf(sig string) int {
	n, takes := 1, strings.TrimLeft(sig[1:], "[")
	for takes[0] != ')' {
		end := 1
		if takes[0] == 'L' {
			end = strings.IndexByte(takes, ';') + 1
		}
		n, takes = n+1, strings.TrimLeft(takes[end:], "[")
	}
	return n
}

// things does what makes things, or asks them.
func (d *doing) things(op int, k api.Const) *thing {
	switch op {
	case api.Str:
		return d.make(0, &thing{d: "S", text: k.S})
	case api.New:
		return d.make(0, &thing{d: k.S, words: make([]value, len(d.t.Layout(k.S[1:len(k.S)-1])))})
	case api.Arr:
		n := d.c.stack[len(d.c.stack)-1].n
		if n < 0 || n > 256 {
			return d.exc("IndexExc")
		}
		return d.make(1, &thing{d: k.S, words: make([]value, n)})
	case api.Join:
		l := d.c.stack[len(d.c.stack)-2:]
		if l[0].at == nil || l[1].at == nil {
			return d.exc("NullExc")
		}
		s := l[0].at.text + l[1].at.text
		if len(s) > 64 {
			return d.exc("MemExc")
		}
		return d.make(2, &thing{d: "S", text: s})
	case api.AStore, api.PutF:
		v := d.pop()
		return d.word(op, k, func(to *value) { *to = v })
	case api.ALoad, api.GetF:
		return d.word(op, k, func(to *value) { d.push(*to) })
	}
	at := d.pop().at
	fits := at != nil && d.t.Hier().Sub(at.d, k.S)
	switch {
	case op == api.Is:
		return d.truth(fits)
	case op == api.Cast && (at == nil || fits):
		return d.push(value{at: at})
	case op == api.Cast:
		return d.exc("CastExc")
	case at == nil:
		return d.exc("NullExc")
	case op == api.ALen:
		return d.number(int64(len(at.words)))
	}
	return d.number(int64(len(at.text)))
}

// make leaves a thing in the place of so many values, if there is room for it.
func (d *doing) make(takes int, x *thing) *thing {
	if d.room(x) == nil {
		return d.exc("MemExc")
	}
	d.c.stack = d.c.stack[:len(d.c.stack)-takes]
	return d.push(value{at: x})
}

// word lets something be done with the field, or the element, that is spoken of.
func (d *doing) word(op int, k api.Const, with func(to *value)) *thing {
	element := op == api.ALoad || op == api.AStore
	at := int64(0)
	if element {
		at = d.pop().n
	}
	x := d.pop().at
	if x == nil {
		return d.exc("NullExc")
	}
	if !element {
		at = int64(slices.IndexFunc(d.t.Layout(classOf(x)), func(f api.Field) bool { return f.Name == k.T }))
	}
	if at < 0 || at >= int64(len(x.words)) {
		return d.exc("IndexExc")
	}
	with(&x.words[at])
	return nil
}

// throw lets a thing go to where it is caught.
func (d *doing) throw(at *thing) {
	d.thrown[classOf(at)]++
	for n := len(d.g.calls) - 1; n >= 0; n-- {
		c := d.g.calls[n]
		place := c.pc
		if c != d.c {
			place--
		}
		for _, h := range c.m.Hand {
			if h.From <= place && place < h.To && d.t.Hier().Sub(at.d, "L"+h.Class+";") {
				for i, to := range c.r.At[h.At].Locals {
					if isRef(to) && !isRef(c.r.At[c.pc].Locals[i]) {
						c.locals[i] = value{}
					}
				}
				c.stack, c.pc = []value{{at: at}}, h.At
				d.came = exec.Paused
				return
			}
		}
		d.g.calls = d.g.calls[:n]
	}
	d.g.state, d.g.end, d.came = exec.Done, classOf(at), exec.Ended
}
