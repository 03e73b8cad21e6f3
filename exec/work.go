package exec

import (
	"slices"

	"hornbook/api"
	"hornbook/arith"
	"hornbook/desc"
	"hornbook/frame"
	"hornbook/hier"
	"hornbook/link"
)

// run is the method that a thread begins with that is spawned.
const run = "run"

// work is the next instruction of a thread, that is to be done: the thread's number, the instruction's place, and it. Each way to do it answers what came of it.
type work struct {
	*Machine
	*thread
	who int
	pc  int
	op  link.Op
}

// do does the instruction.
func (w work) do() int {
	switch w.op.Op {
	case api.Nop:
		return w.leave()
	case api.Int:
		return w.leave(w.op.N)
	case api.True:
		return w.leave(1)
	case api.False, api.Null:
		return w.leave(0)
	case api.Load:
		v, _ := w.calls.Local(w.op.A)
		return w.leave(v)
	case api.Store:
		w.calls.Store(w.op.A, w.pop())
		return w.leave()
	case api.Pop:
		w.pop()
		return w.leave()
	case api.Dup:
		return w.leave(w.peek(0))
	case api.Neg, api.Not:
		return w.number(w.pop(), 0)
	case api.Add, api.Sub, api.Mul, api.Div, api.Rem, api.Lt, api.Le, api.EqI, api.EqB, api.EqR:
		b := w.pop()
		return w.number(w.pop(), b)
	case api.Print:
		return w.print()
	case api.Read:
		return w.read()
	}
	return w.flow()
}

// flow does an instruction by which a thread goes elsewhere, or another one comes to be, or may have to wait.
func (w work) flow() int {
	switch w.op.Op {
	case api.Jump:
		return w.jump()
	case api.JumpT, api.JumpF:
		if is := w.pop() == 1; is != (w.op.Op == api.JumpT) {
			return w.leave()
		}
		return w.jump()
	case api.Call:
		return w.call()
	case api.Ret:
		return w.ret(w.pop())
	case api.RetV:
		return w.ret()
	case api.Throw:
		if at := w.pop(); at != 0 {
			return w.throw(at)
		}
		return w.fail(hier.Nil)
	case api.Spawn:
		return w.spawn()
	case api.Enter:
		return w.enter()
	case api.Exit:
		return w.exit()
	}
	return w.things()
}

// leave leaves values on the stack; the next instruction is next.
func (w work) leave(values ...int64) int {
	for _, v := range values {
		w.calls.Push(v)
	}
	w.calls.Go(w.pc + 1)
	return Ran
}

// pop takes the top value from the stack.
func (w work) pop() int64 {
	v, _ := w.calls.Pop()
	return v
}

// peek answers the value that is so many below the top of the stack.
func (w work) peek(n int) int64 {
	v, _ := w.calls.Peek(n)
	return v
}

// number leaves what the instruction makes of two numbers, or of the first.
func (w work) number(a, b int64) int {
	v, e := arith.Do(w.op.Op, a, b)
	if e == api.ErrThrow {
		return w.fail(hier.Div)
	}
	return w.leave(v)
}

// print writes the value on top.
func (w work) print() int {
	v := w.pop()
	var s string
	switch w.op.S {
	case desc.Int:
		s = arith.Text(v)
	case desc.Bool:
		s = arith.Show(v)
	case desc.Str:
		if v == 0 {
			return w.fail(hier.Nil)
		}
		s, _ = w.heap.Bytes(v)
	}
	w.out = append(w.out, s)
	return w.leave()
}

// read leaves the first number that waits to be read.
func (w work) read() int {
	if len(w.input) == 0 {
		return w.stuck(Hungry)
	}
	n := w.input[0]
	w.input = w.input[1:]
	return w.leave(n)
}

// stuck has the thread stand so that it is to be asked anew.
func (w work) stuck(state int) int {
	w.state = state
	return Stuck
}

// jump goes to the instruction's place.
func (w work) jump() int {
	w.calls.Go(w.op.A)
	if w.op.A <= w.pc {
		return Paused
	}
	return Ran
}

// call calls a method of the thing below what the method takes besides.
func (w work) call() int {
	// Null is of no class, which has no methods.
	number := w.prog.Of(w.classOf(w.peek(w.op.B-1)), w.op.A)
	if number < 0 {
		return w.fail(hier.Nil)
	}
	if w.calls.Deep() >= api.MaxFrames {
		return w.fail(hier.Deep)
	}
	takes := make([]int64, w.op.B)
	for i := range slices.Backward(takes) {
		takes[i] = w.pop()
	}
	w.calls.Go(w.pc + 1)
	w.calls.Call(number, w.code(number), takes...)
	return Paused
}

// ret ends the last call, and leaves what it gives, if it gives something, on the stack of the one ahead.
func (w work) ret(gives ...int64) int {
	w.calls.Back()
	if w.calls.Deep() == 0 {
		return w.done("")
	}
	for _, v := range gives {
		w.calls.Push(v)
	}
	return Ran
}

// done ends the thread, by a class.
func (w work) done(end string) int {
	w.state, w.end = Done, end
	return Ended
}

// fail throws a thing that is there always, of a class.
func (w work) fail(class string) int {
	return w.throw(w.always[slices.Index(excs[:], class)])
}

// throw has a thing go from the last call on to the first handler that takes it; if there is none, the thread is Done.
func (w work) throw(at int64) int {
	id := w.typeOf(at)
	all := w.calls.All()
calls:
	for i, f := range slices.Backward(all) {
		pc := f.Pc
		if i < len(all)-1 {
			// It is at the instruction ahead of the next one: a Call, of the call that is over now.
			pc--
		}
		for _, h := range w.code(f.Code).Hand {
			if h.From <= pc && pc < h.To && w.prog.Sub(id, desc.Of(h.Class)) {
				w.catch(f, h.At, at)
				break calls
			}
		}
		w.calls.Back()
	}
	if w.calls.Deep() == 0 {
		return w.done(w.classOf(at))
	}
	return Paused
}

// catch has the last call, which is f, go on at a handler.
func (w work) catch(f frame.Frame, to int, at int64) {
	x := w.code(f.Code)
	for _, place := range x.Low[to] {
		// Where the call would have gone on this local could not be used, so it was not among Roots: what it was may stand elsewhere by now, or be gone.
		if f.Pc < len(x.Low) && !slices.Contains(x.Low[f.Pc], place) {
			w.calls.Store(place, 0)
		}
	}
	w.calls.Catch(to, at)
}

// spawn begins a thread, with the method run of the thing on top.
func (w work) spawn() int {
	at := w.pop()
	// Null is of no class, which has no methods.
	number := w.method(w.classOf(at), run)
	if number < 0 {
		return w.fail(hier.Nil)
	}
	if w.busy() {
		return w.fail(hier.Mem)
	}
	w.begin(number, at)
	return w.leave()
}

// enter has the thread hold the thing on top once more; if another one holds it, it stays there.
func (w work) enter() int {
	at := w.peek(0)
	if at == 0 {
		return w.fail(hier.Nil)
	}
	if w.locks.Enter(at, w.who) == api.ErrWait {
		return w.stuck(Waits)
	}
	w.pop()
	return w.leave()
}

// exit has the thread hold the thing on top once less.
func (w work) exit() int {
	at := w.pop()
	if at == 0 {
		return w.fail(hier.Nil)
	}
	if w.locks.Exit(at, w.who) != api.OK {
		return w.fail(hier.Lock)
	}
	return w.leave()
}
