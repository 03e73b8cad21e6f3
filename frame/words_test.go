package frame_test

import (
	"math"
	"math/rand/v2"
	"slices"
	"testing"

	"hornbook/api"
	"hornbook/frame"
	"hornbook/link"
)

// picker answers a number from 0 to below another one.
type picker func(below int) int

// model is calls by the chapter's words alone.
type model []frame.Frame

// copied answers all calls, in memory of their own.
func (m model) copied() model {
	var l model
	for _, f := range m {
		l = append(l, frame.Frame{Code: f.Code, Pc: f.Pc, Locals: slices.Clone(f.Locals), Stack: slices.Clone(f.Stack)})
	}
	return l
}

// visit goes through the values of things, by a program's methods; each is then what is answered of it.
func (m model) visit(p *link.Prog, one func(v int64) int64) {
	for _, f := range m {
		x, ok := p.Code(f.Code)
		if !ok || f.Pc < 0 || f.Pc >= len(x.Ops) {
			continue
		}
		for i, v := range f.Locals {
			if slices.Contains(x.Low[f.Pc], i) {
				f.Locals[i] = one(v)
			}
		}
		for i, v := range f.Stack {
			if slices.Contains(x.High[f.Pc], i) {
				f.Stack[i] = one(v)
			}
		}
	}
}

// roots answers all values of things.
func (m model) roots(p *link.Prog) []int64 {
	var l []int64
	m.visit(p, func(v int64) int64 {
		l = append(l, v)
		return v
	})
	return l
}

// number answers one that is an edge, or small.
func number(pick picker) int {
	edges := []int{math.MinInt, math.MaxInt, -1, 24, 25, 32}
	if pick(8) == 0 {
		return edges[pick(len(edges))]
	}
	return pick(6)
}

// numbers answers so many.
func numbers(pick picker, n int) []int64 {
	var l []int64
	for range n {
		l = append(l, int64(number(pick)))
	}
	return l
}

// world is calls, what they are by the words, and programs.
type world struct {
	*frame.Calls
	m     model
	progs []*link.Prog
	pick  picker
	came  map[api.Errno]int
	// What is done more often: 1 values are pushed, 2 calls are made.
	mood int
}

// worldOf answers no calls.
func worldOf(t testing.TB, pick picker, came map[api.Errno]int) *world {
	l := methods(t)
	return &world{frame.New(), nil, []*link.Prog{made(t), progOf(t, l[2], l[0]), shortProg(t), {}}, pick, came, pick(3)}
}

// act does one thing to the calls and to what they are by the words, and holds that the answers are alike.
func (w *world) act(t testing.TB) {
	t.Helper()
	n, v := number(w.pick), int64(number(w.pick))
	switch often := w.pick(4) > 0; {
	case often && w.mood == 2:
		w.call(t)
	case w.pick(3) == 0:
		w.calls(t)
	case len(w.m) == 0:
		w.none(t, n, v)
	case often && w.mood == 1:
		w.push(t, &w.m[len(w.m)-1], v)
	default:
		w.last(t, &w.m[len(w.m)-1], n, v)
	}
}

// push puts a value on the last call's stack.
func (w *world) push(t testing.TB, f *frame.Frame, v int64) {
	t.Helper()
	want := api.ErrFull
	if len(f.Stack) < 16 {
		f.Stack, want = append(f.Stack, v), api.OK
	}
	w.did(t, "Push", w.Push(v), want)
}

// none does what is of the last call, where there is none.
func (w *world) none(t testing.TB, n int, v int64) {
	t.Helper()
	got, e := w.Pop()
	w.told(t, "Pop", got, e, 0, api.ErrState)
	got, e = w.Peek(n)
	w.told(t, "Peek", got, e, 0, api.ErrState)
	got, e = w.Local(n)
	w.told(t, "Local", got, e, 0, api.ErrState)
	for _, e := range []api.Errno{w.Push(v), w.Store(n, v), w.Go(n), w.Catch(n, v)} {
		w.did(t, "of no call", e, api.ErrState)
	}
}

// calls does what is of all calls.
func (w *world) calls(t testing.TB) {
	t.Helper()
	p := w.progs[w.pick(len(w.progs))]
	switch w.pick(5) {
	case 0, 1:
		w.call(t)
	case 2:
		want := api.ErrState
		if last := len(w.m) - 1; last >= 0 {
			w.m, want = w.m[:last], api.OK
		}
		w.did(t, "Back", w.Back(), want)
	case 3:
		n := len(w.m.roots(p))
		l := numbers(w.pick, max(0, n+w.pick(4)/3-w.pick(4)/3))
		want := api.ErrArg
		if len(l) == n {
			next := 0
			w.m.visit(p, func(int64) int64 {
				next++
				return l[next-1]
			})
			want = api.OK
		}
		w.did(t, "Put", w.Put(p, l...), want)
	default:
		w.turn(t)
	}
}

// call makes one more call.
func (w *world) call(t testing.TB) {
	t.Helper()
	number, l := w.pick(4)-w.pick(8)/7, numbers(w.pick, w.pick(6))
	x := link.Code{Takes: len(l) + w.pick(9)/8 - w.pick(9)/8, Locals: len(l) + w.pick(22) - w.pick(9)/8}
	want := api.OK
	switch {
	case x.Takes != len(l), x.Takes > x.Locals, x.Locals > 24:
		want = api.ErrArg
	case len(w.m) == 32:
		want = api.ErrDeep
	default:
		w.m = append(w.m, frame.Frame{Code: number, Locals: append(slices.Clone(l), make([]int64, x.Locals-len(l))...)})
	}
	w.did(t, "Call", w.Call(number, x, l...), want)
}

// turn gives methods other numbers.
func (w *world) turn(t testing.TB) {
	t.Helper()
	var codes []int
	for range w.pick(3) + w.pick(8) {
		codes = append(codes, w.pick(4)-w.pick(20)/19)
	}
	turned, want := w.m.copied(), api.OK
	for i, f := range turned {
		switch at := f.Code; {
		case at < 0, at >= len(codes):
			want = api.ErrNone
		default:
			turned[i].Code = codes[at]
			if codes[at] < 0 {
				want = api.ErrNone
			}
		}
	}
	if want == api.OK {
		w.m = turned
	}
	w.did(t, "Turn", w.Turn(codes...), want)
}

// last does what is of the last call.
func (w *world) last(t testing.TB, f *frame.Frame, n int, v int64) {
	t.Helper()
	top := len(f.Stack) - 1
	value, want := int64(0), api.OK
	switch w.pick(8) {
	case 0, 1, 2:
		w.push(t, f, v)
	case 3:
		if want = api.ErrRange; top >= 0 {
			value, want = f.Stack[top], api.OK
			f.Stack = f.Stack[:top]
		}
		got, e := w.Pop()
		w.told(t, "Pop", got, e, value, want)
	case 4:
		if want = api.ErrRange; n >= 0 && n <= top {
			value, want = f.Stack[top-n], api.OK
		}
		got, e := w.Peek(n)
		w.told(t, "Peek", got, e, value, want)
	case 5:
		if want = api.ErrRange; n >= 0 && n < len(f.Locals) {
			value, want = f.Locals[n], api.OK
		}
		got, e := w.Local(n)
		w.told(t, "Local", got, e, value, want)
		if want == api.OK {
			f.Locals[n] = v
		}
		w.did(t, "Store", w.Store(n, v), want)
	case 6:
		f.Pc = n
		w.did(t, "Go", w.Go(n), want)
	default:
		f.Pc, f.Stack = n, []int64{v}
		w.did(t, "Catch", w.Catch(n, v), want)
	}
}

// did notes and holds which error is answered.
func (w *world) did(t testing.TB, what string, e, want api.Errno) {
	t.Helper()
	w.came[e]++
	does(t, what, e, want)
}

// told notes and holds what is answered.
func (w *world) told(t testing.TB, what string, v int64, e api.Errno, want int64, wantE api.Errno) {
	t.Helper()
	w.came[e]++
	holds(t, what, v, e, want, wantE)
}

// hold holds all that the chapter says of the calls.
func (w *world) hold(t testing.TB) {
	t.Helper()
	are(t, w.Calls, w.m...)
	for _, p := range w.progs {
		roots(t, w.Calls, p, w.m.roots(p)...)
	}
}

// P15.1 to P15.6: whatever is done, one after another.
func TestRandomCalls(t *testing.T) {
	pick := rand.New(rand.NewPCG(8, 15)).IntN
	came, most, things := map[api.Errno]int{}, 0, 0
	for range 50 {
		w := worldOf(t, pick, came)
		for range 300 {
			w.act(t)
			w.hold(t)
			most = max(most, len(w.m))
			things += len(w.m.roots(w.progs[0]))
			if t.Failed() {
				t.Fatalf("of %v", w.m)
			}
		}
	}
	for _, e := range []api.Errno{api.OK, api.ErrState, api.ErrRange, api.ErrArg, api.ErrNone, api.ErrFull, api.ErrDeep} {
		if came[e] < 30 {
			t.Errorf("error %d came just %d times", e, came[e])
		}
	}
	if most < 32 || things < 10000 {
		t.Errorf("%d calls at most, %d values of things", most, things)
	}
}

// P15.1 to P15.6: no call panics, and each answers what the words say.
func FuzzCalls(f *testing.F) {
	f.Add([]byte{0, 0, 1, 2, 3, 4, 1, 0, 5, 5})
	f.Add([]byte("any bytes at all, that pick what is done to calls, one after another"))
	f.Add(slices.Repeat([]byte{0, 0, 2, 1, 1, 1, 1, 0, 7, 0, 1, 2, 0, 0, 5, 1}, 30))
	f.Fuzz(func(t *testing.T, bytes []byte) {
		pick := func(below int) int {
			if len(bytes) == 0 {
				return 0
			}
			n := int(bytes[0]) % below
			bytes = bytes[1:]
			return n
		}
		w := worldOf(t, pick, map[api.Errno]int{})
		for range 300 {
			if len(bytes) == 0 {
				return
			}
			w.act(t)
			w.hold(t)
		}
	})
}
