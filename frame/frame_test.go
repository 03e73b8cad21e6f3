package frame_test

import (
	"math"
	"slices"
	"strconv"
	"strings"
	"testing"

	"hornbook/api"
	"hornbook/frame"
	"hornbook/ins"
	"hornbook/link"
	"hornbook/table"
)

// code answers the instructions of a text: each a name, and an A that is not 0.
func code(t testing.TB, text string) []api.Ins {
	t.Helper()
	var l []api.Ins
	for part := range strings.SplitSeq(text, ",") {
		w := append(strings.Fields(part), "0")
		a, err := strconv.Atoi(w[1])
		op := ins.Find(w[0])
		if err != nil || op < 0 {
			t.Fatalf("%q is no instruction", part)
		}
		l = append(l, api.Ins{Op: op, A: a})
	}
	return l
}

// methods answers m, with things among the locals and on the stack, n, with none but itself, and d, behind whose end there is code.
func methods(t testing.TB) []api.Method {
	t.Helper()
	return []api.Method{
		{Name: "m", Sig: "(LA;I)V", Locals: 5, Code: code(t, "load, load 2, load 1, str 1, store 4, store 3, pop, pop, retv")},
		{Name: "n", Sig: "()I", Locals: 2, Code: code(t, "int, store 1, load 1, ret")},
		{Name: "d", Sig: "()V", Locals: 1, Code: code(t, "load, pop, retv, nop, jump")},
	}
}

// progOf answers a program of a class with these methods.
func progOf(t testing.TB, l ...api.Method) *link.Prog {
	t.Helper()
	consts := []api.Const{{Kind: api.CInt, N: 5}, {Kind: api.CStr, S: "s"}}
	x, name, e := table.New(api.Class{Name: "A", Super: "Object", Consts: consts, Methods: l})
	if e != api.OK {
		t.Fatalf("table.New = %q, error %d", name, e)
	}
	p, e := link.New(x, link.NewTypes())
	if e != api.OK {
		t.Fatalf("link.New: error %d", e)
	}
	return p
}

// made answers the program of m, n and d, that have the numbers 0, 1 and 2.
func made(t testing.TB) *link.Prog {
	t.Helper()
	return progOf(t, methods(t)...)
}

// takes answers a method that takes so many values, and has so many locals.
func takes(n, locals int) link.Code {
	return link.Code{Takes: n, Locals: locals}
}

// same tells whether two calls are alike.
func same(a, b frame.Frame) bool {
	return a.Code == b.Code && a.Pc == b.Pc && slices.Equal(a.Locals, b.Locals) && slices.Equal(a.Stack, b.Stack)
}

// are holds that there are just these calls.
func are(t testing.TB, c *frame.Calls, want ...frame.Frame) {
	t.Helper()
	if got := c.All(); !slices.EqualFunc(got, want, same) {
		t.Errorf("All = %v, want %v", got, want)
	}
	if c.Deep() != len(want) {
		t.Errorf("Deep = %d, want %d", c.Deep(), len(want))
	}
	top, ok := c.Top()
	if ok != (len(want) > 0) || !same(top, append([]frame.Frame{{}}, want...)[len(want)]) {
		t.Errorf("Top = %v, %v of %v", top, ok, want)
	}
}

// holds that what answers a number and an error answers these.
func holds(t testing.TB, what string, v int64, e api.Errno, want int64, wantE api.Errno) {
	t.Helper()
	if v != want || e != wantE {
		t.Errorf("%s = %d, error %d, want %d, error %d", what, v, e, want, wantE)
	}
}

// does holds which error is answered.
func does(t testing.TB, what string, e, want api.Errno) {
	t.Helper()
	if e != want {
		t.Errorf("%s: error %d, want %d", what, e, want)
	}
}

// called answers calls of which the last one has these locals, and this stack.
func called(t testing.TB, code, pc int, locals, stack []int64) *frame.Calls {
	t.Helper()
	c := frame.New()
	call(t, c, code, pc, locals, stack)
	return c
}

// call makes one more call, with these locals, and this stack.
func call(t testing.TB, c *frame.Calls, code, pc int, locals, stack []int64) {
	t.Helper()
	does(t, "Call", c.Call(code, takes(len(locals), len(locals)), locals...), api.OK)
	for _, v := range stack {
		does(t, "Push", c.Push(v), api.OK)
	}
	does(t, "Go", c.Go(pc), api.OK)
}

// The chapter's example.
func TestExample(t *testing.T) {
	c := frame.New()
	does(t, "Call", c.Call(0, takes(1, 2), 5), api.OK)
	are(t, c, frame.Frame{Locals: []int64{5, 0}})
	does(t, "Push(7)", c.Push(7), api.OK)
	v, e := c.Peek(0)
	holds(t, "Peek(0)", v, e, 7, api.OK)
	v, e = c.Pop()
	holds(t, "Pop", v, e, 7, api.OK)
	v, e = c.Pop()
	holds(t, "Pop", v, e, 0, api.ErrRange)
}

// P15.1: what can be called, and what comes to be of it.
func TestCall(t *testing.T) {
	for _, x := range []struct {
		takes, locals, many int
		want                api.Errno
	}{
		{0, 0, 0, api.OK},
		{0, 1, 0, api.OK},
		{1, 1, 1, api.OK},
		{1, 24, 1, api.OK},
		{7, 7, 7, api.OK},
		{24, 24, 24, api.OK},
		{2, 5, 1, api.ErrArg},
		{2, 5, 3, api.ErrArg},
		{2, 5, 0, api.ErrArg},
		{0, 5, 1, api.ErrArg},
		{-1, 5, 0, api.ErrArg},
		{-1, 5, 1, api.ErrArg},
		{2, 1, 2, api.ErrArg},
		{1, 0, 1, api.ErrArg},
		{0, -1, 0, api.ErrArg},
		{0, math.MinInt, 0, api.ErrArg},
		{0, 25, 0, api.ErrArg},
		{25, 25, 25, api.ErrArg},
		{1, math.MaxInt, 1, api.ErrArg},
		{math.MaxInt, math.MaxInt, 1, api.ErrArg},
		{math.MinInt, math.MinInt, 0, api.ErrArg},
	} {
		for _, number := range []int{0, 3, -1, math.MinInt, math.MaxInt} {
			values := []int64{math.MinInt64, -1, math.MaxInt64, 4, 5, 6, 7, 8, 9, 10, 11, 12, 13, 14, 15, 16, 17, 18, 19, 20, 21, 22, 23, 24, 25}[:x.many]
			c := called(t, 9, 4, []int64{1}, []int64{2})
			below := frame.Frame{Code: 9, Pc: 4, Locals: []int64{1}, Stack: []int64{2}}
			does(t, "Call", c.Call(number, takes(x.takes, x.locals), values...), x.want)
			if x.want != api.OK {
				are(t, c, below)
				continue
			}
			locals := append(slices.Clone(values), make([]int64, x.locals-x.many)...)
			are(t, c, below, frame.Frame{Code: number, Locals: locals})
		}
	}
}

// P15.1: there are 32 calls at most; what can not be called comes ahead of that.
func TestCallsTooDeep(t *testing.T) {
	c := frame.New()
	var want []frame.Frame
	for i := range 32 {
		does(t, "Call", c.Call(i, takes(1, 2), int64(i)), api.OK)
		want = append(want, frame.Frame{Code: i, Locals: []int64{int64(i), 0}})
		are(t, c, want...)
	}
	for range 3 {
		does(t, "Call of 33", c.Call(32, takes(1, 2), 7), api.ErrDeep)
		does(t, "Call of 33, and of none", c.Call(32, takes(1, 2)), api.ErrArg)
		does(t, "Call of 33, and of 25 locals", c.Call(32, takes(0, 25)), api.ErrArg)
		are(t, c, want...)
	}
	for i := 31; i >= 0; i-- {
		does(t, "Back", c.Back(), api.OK)
		are(t, c, want[:i]...)
	}
	does(t, "Back of none", c.Back(), api.ErrState)
	are(t, c)
	does(t, "Call", c.Call(5, takes(0, 3)), api.OK)
	// Nothing is left of the calls that are over.
	are(t, c, frame.Frame{Code: 5, Locals: []int64{0, 0, 0}})
}

// P15.1, rules 4 and 5 of the document: no list that is handed in or answered is one of the calls' own.
func TestListsOfTheirOwn(t *testing.T) {
	c := frame.New()
	// With room behind what is handed in, for all that a call has.
	list := make([]int64, 64)
	list[0], list[1], list[2] = 1, 2, 3
	c.Call(0, takes(2, 4), list[:2]...)
	c.Store(0, 8)
	c.Store(0, 1)
	if list[0] != 1 || list[1] != 2 || list[2] != 3 {
		t.Errorf("Call has changed what is handed in: %d", list)
	}
	list[0], list[1], list[2] = 9, 9, 9
	c.Push(5)
	c.Push(6)
	c.Call(1, takes(0, 1))
	c.Push(7)
	want := []frame.Frame{{Locals: []int64{1, 2, 0, 0}, Stack: []int64{5, 6}}, {Code: 1, Locals: []int64{0}, Stack: []int64{7}}}
	are(t, c, want...)
	earlier := c.All()
	for range 3 {
		top, _ := c.Top()
		for i, f := range append(c.All(), top) {
			locals, stack := slices.Clone(f.Locals), slices.Clone(f.Stack)
			for _, l := range [][]int64{append(f.Locals, 90, 91, 92), append(f.Stack, 93, 94, 95)} {
				l[len(l)-1] = 96
			}
			if !slices.Equal(f.Locals, locals) || !slices.Equal(f.Stack, stack) {
				t.Errorf("what is appended to an answer of the call %d is seen in it: %v", i, f)
			}
			f.Locals[0], f.Stack[0] = 97, 98
			f.Pc = 99
		}
		c.All()[0].Code = 99
		are(t, c, want...)
	}
	c.Catch(3, 8)
	c.Store(0, 8)
	c.Back()
	c.Store(1, 8)
	c.Pop()
	if !slices.EqualFunc(earlier, want, same) {
		t.Errorf("what was answered has come to be %v, want %v", earlier, want)
	}
}

// P15.2: of no call.
func TestNoCall(t *testing.T) {
	over := called(t, 0, 3, []int64{1, 2}, []int64{3})
	does(t, "Back", over.Back(), api.OK)
	for _, c := range []*frame.Calls{frame.New(), {}, over} {
		holdNone(t, c, api.ErrState)
		does(t, "Turn of none", c.Turn(), api.OK)
		does(t, "Turn", c.Turn(-1, 5), api.OK)
		does(t, "Put of none", c.Put(made(t)), api.OK)
		does(t, "Put of one", c.Put(made(t), 1), api.ErrArg)
		are(t, c)
		does(t, "Call", c.Call(4, takes(1, 1), 6), api.OK)
		are(t, c, frame.Frame{Code: 4, Locals: []int64{6}})
	}
}

// holdNone holds what is answered where there is no call.
func holdNone(t *testing.T, c *frame.Calls, want api.Errno) {
	t.Helper()
	does(t, "Back", c.Back(), want)
	v, e := c.Pop()
	holds(t, "Pop", v, e, 0, want)
	for _, i := range []int{math.MinInt, -1, 0, 1, math.MaxInt} {
		v, e = c.Peek(i)
		holds(t, "Peek", v, e, 0, want)
		v, e = c.Local(i)
		holds(t, "Local", v, e, 0, want)
		does(t, "Store", c.Store(i, 5), want)
		does(t, "Go", c.Go(i), want)
		does(t, "Catch", c.Catch(i, 5), want)
		does(t, "Push", c.Push(int64(i)), want)
	}
	if l := c.Roots(made(t)); len(l) != 0 {
		t.Errorf("Roots of no call = %d", l)
	}
	are(t, c)
}

// P15.1 to P15.4: of nil; and of no program.
func TestNil(t *testing.T) {
	var c *frame.Calls
	holdNone(t, c, api.ErrNil)
	does(t, "Call", c.Call(0, takes(1, 1), 5), api.ErrNil)
	does(t, "Call of what can not be", c.Call(0, takes(1, 1)), api.ErrNil)
	does(t, "Turn", c.Turn(0), api.ErrNil)
	does(t, "Turn of none", c.Turn(), api.ErrNil)
	for _, l := range [][]int64{nil, {1}} {
		does(t, "Put", c.Put(made(t), l...), api.ErrNil)
		does(t, "Put of no program", c.Put(nil, l...), api.ErrNil)
		for _, there := range []*frame.Calls{frame.New(), called(t, 0, 0, []int64{1, 2, 3}, nil)} {
			does(t, "Put of no program", there.Put(nil, l...), api.ErrNil)
			if r := there.Roots(nil); len(r) != 0 {
				t.Errorf("Roots of no program = %d", r)
			}
		}
	}
	if l := c.Roots(nil); len(l) != 0 {
		t.Errorf("Roots of nil = %d", l)
	}
}

// P15.2, P15.6: 16 values are pushed at most, and popped, the last one first.
func TestPushAndPop(t *testing.T) {
	c := called(t, 3, 2, []int64{math.MaxInt64, math.MinInt64}, nil)
	want := frame.Frame{Code: 3, Pc: 2, Locals: []int64{math.MaxInt64, math.MinInt64}}
	for round := range 3 {
		for i := range 16 {
			v := int64(100*round+i) - 105
			does(t, "Push", c.Push(v), api.OK)
			want.Stack = append(want.Stack, v)
			are(t, c, want)
		}
		does(t, "Push of 17", c.Push(5), api.ErrFull)
		does(t, "Push of 17", c.Push(0), api.ErrFull)
		are(t, c, want)
		for len(want.Stack) > 0 {
			last := len(want.Stack) - 1
			v, e := c.Pop()
			holds(t, "Pop", v, e, want.Stack[last], api.OK)
			want.Stack = want.Stack[:last]
			are(t, c, want)
		}
		v, e := c.Pop()
		holds(t, "Pop of none", v, e, 0, api.ErrRange)
		are(t, c, want)
	}
}

// P15.2: the value so many below the top.
func TestPeek(t *testing.T) {
	for n := range 17 {
		c := called(t, 0, 0, []int64{70, 80}, nil)
		var stack []int64
		for i := range n {
			stack = append(stack, int64(10+i))
			c.Push(int64(10 + i))
		}
		for i := range n {
			v, e := c.Peek(i)
			holds(t, "Peek", v, e, int64(10+n-1-i), api.OK)
		}
		for _, i := range []int{math.MinInt, -n - 1, -n, -2, -1, n, n + 1, 17, math.MaxInt} {
			if i < 0 || i >= n {
				v, e := c.Peek(i)
				holds(t, "Peek of none", v, e, 0, api.ErrRange)
			}
		}
		are(t, c, frame.Frame{Locals: []int64{70, 80}, Stack: stack})
	}
}

// P15.2: locals are told, and are others, one by one.
func TestLocals(t *testing.T) {
	for _, n := range []int{0, 1, 2, 23, 24} {
		c := frame.New()
		c.Call(0, takes(0, n))
		c.Push(55)
		want := frame.Frame{Locals: make([]int64, n), Stack: []int64{55}}
		for i := range n {
			v, e := c.Local(i)
			holds(t, "Local", v, e, 0, api.OK)
			does(t, "Store", c.Store(i, int64(i)-3), api.OK)
			want.Locals[i] = int64(i) - 3
			are(t, c, want)
			v, e = c.Local(i)
			holds(t, "Local", v, e, int64(i)-3, api.OK)
		}
		for _, i := range []int{math.MinInt, -24, -1, n, n + 1, 24, 40, math.MaxInt} {
			v, e := c.Local(i)
			holds(t, "Local of none", v, e, 0, api.ErrRange)
			does(t, "Store of none", c.Store(i, 9), api.ErrRange)
		}
		are(t, c, want)
	}
}

// P15.2: any instruction is next; what is caught leaves just one value.
func TestGoAndCatch(t *testing.T) {
	for _, pc := range []int{0, 1, 511, 512, -1, math.MinInt, math.MaxInt} {
		for many := range 17 {
			c := called(t, 8, 6, []int64{1, 2}, nil)
			var stack []int64
			for i := range many {
				c.Push(int64(i))
				stack = append(stack, int64(i))
			}
			does(t, "Go", c.Go(pc), api.OK)
			are(t, c, frame.Frame{Code: 8, Pc: pc, Locals: []int64{1, 2}, Stack: stack})
			c.Go(3)
			does(t, "Catch", c.Catch(pc, -7), api.OK)
			are(t, c, frame.Frame{Code: 8, Pc: pc, Locals: []int64{1, 2}, Stack: []int64{-7}})
			for range 15 {
				does(t, "Push behind Catch", c.Push(1), api.OK)
			}
			does(t, "Push of 17 behind Catch", c.Push(1), api.ErrFull)
		}
	}
}

// P15.2: what is done is done of the last call alone.
func TestCallsBelow(t *testing.T) {
	c := called(t, 1, 2, []int64{1, 2, 3}, []int64{4, 5})
	below := frame.Frame{Code: 1, Pc: 2, Locals: []int64{1, 2, 3}, Stack: []int64{4, 5}}
	c.Call(0, takes(1, 24), 9)
	for i := range 24 {
		c.Store(i, 77)
	}
	for range 20 {
		c.Push(88)
	}
	c.Go(7)
	c.Catch(8, 9)
	if got := c.All(); len(got) != 2 || !same(got[0], below) {
		t.Errorf("All = %v, want %v below", got, below)
	}
	for range 2 {
		c.Pop()
	}
	if got := c.All(); len(got) != 2 || !same(got[0], below) {
		t.Errorf("All = %v, want %v below", got, below)
	}
	c.Back()
	are(t, c, below)
	c.Call(0, takes(0, 3))
	are(t, c, below, frame.Frame{Locals: []int64{0, 0, 0}})
}

// P15.1 to P15.4: calls beside each other know nothing of each other.
func TestCallsBesideEachOther(t *testing.T) {
	p := made(t)
	a, b := called(t, 0, 0, []int64{1, 2, 3, 4, 5}, []int64{6}), called(t, 0, 0, []int64{1, 2, 3, 4, 5}, []int64{6})
	want := frame.Frame{Locals: []int64{1, 2, 3, 4, 5}, Stack: []int64{6}}
	a.Push(7)
	a.Store(0, 9)
	a.Put(p, 40, 41)
	a.Turn(5)
	are(t, b, want)
	a.Catch(8, 9)
	a.Call(1, takes(0, 0))
	are(t, b, want)
	a.Back()
	a.Back()
	are(t, b, want)
}
