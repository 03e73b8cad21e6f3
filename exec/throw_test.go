package exec_test

import (
	"slices"
	"strings"
	"testing"

	"hornbook/api"
	"hornbook/asm"
	"hornbook/exec"
)

// P17.3: to which handler of a call something goes.
func TestHandlers(t *testing.T) {
	throw := "new LE;, store 1, @a nop, @b load 1, @c throw, @d retv, @x pop, int 1, print, retv, @y pop, int 2, print, retv"
	for _, x := range []struct {
		hand     string
		out, end string
	}{
		{"", "", "E"},
		{"@a @d @x Exc", "1", ""},
		{"@c @d @x Exc", "1", ""},
		{"@a @c @x Exc", "", "E"},
		{"@d @x @x Exc", "", "E"},
		{"@c @d @x E", "1", ""},
		{"@c @d @x DivExc", "1", ""},
		{"@c @d @x IndexExc", "", "E"},
		{"@c @d @x NullExc", "", "E"},
		// The first one that has it, whichever is nearer.
		{"@a @d @x Exc; @c @d @y E", "1", ""},
		{"@c @d @y E; @a @d @x Exc", "2", ""},
		{"@c @d @y IndexExc; @a @d @x Exc", "1", ""},
		{"@a @c @y E; @c @d @x Exc", "1", ""},
		{"@a @b @y Exc; @b @c @y Exc; @c @d @x DivExc; @a @d @y Exc", "1", ""},
	} {
		var hand []string
		for h := range strings.SplitSeq(x.hand, "; ") {
			if h != "" {
				hand = append(hand, h)
			}
		}
		w := ran(t, 100, 2, throw, hand...)
		if got := strings.Join(w.Out(), " "); got != x.out || w.End(0) != x.end {
			t.Errorf("%s: wrote %q, ended by %q, want %q, %q", x.hand, got, w.End(0), x.out, x.end)
		}
	}
}

// P17.3: there the stack is just the thing, and the locals are as they were; it pauses behind it.
func TestCaught(t *testing.T) {
	w := begun(t, 100, mainOf(3, "int 5, store 1, new LA;, store 2, @a int 1, int 2, load 2, int 3, int 0, div, @b pop, pop, pop, pop, retv, @h store, load 1, print, load 2, is LA;, print, retv", "@a @b @h DivExc"))
	w.steps(0, "rrrr"+"rrrrr"+"p")
	f, _ := w.Calls(0).Top()
	// The thing of DivExc is the fourth one of those that are there always.
	if f.Pc != 15 || !slices.Equal(f.Stack, []int64{4}) || !slices.Equal(f.Locals, []int64{8, 5, 9}) {
		t.Errorf("it goes on with %v", f)
	}
	w.stands(0, exec.Ready, "")
	w.steps(0, "rrrrrre")
	w.wrote("5", "true")
	w.stands(0, exec.Done, "")
}

// P17.3: each time it is the one thing of the class.
func TestThingsThereAlways(t *testing.T) {
	for i, x := range []struct{ code, class string }{
		{"null, getf A.x:I, pop", "NullExc"},
		{"new LA;, cast LB;, pop", "CastExc"},
		{"int 1, arr [I, int 1, aload, pop", "IndexExc"},
		{"int 1, int 0, rem, pop", "DivExc"},
		{"load, call Main.deep:()V", "StackExc"},
		{"str " + strings.Repeat("m", 64) + ", dup, join, pop", "MemExc"},
		{"new LA;, exit", "LockExc"},
	} {
		code := "@a " + x.code + ", @b retv, @h dup, is L" + x.class + ";, print, dup, store 2, load 1, eqr, print, load 2, store 1, @c true, jumpt @a"
		main := mainOf(3, "null, store 1, "+code+", retv", "@a @b @h Exc").
			Method("deep", "()V", 1, "load, call Main.deep:()V, retv")
		w := begun(t, 200, main)
		for len(w.Out()) < 6 {
			w.Step(0)
		}
		w.wrote("true", "false", "true", "true", "true", "true")
		if v, e := w.Calls(0).Local(2); v != int64(i+1) || e != api.OK {
			t.Errorf("%s has been thrown as the thing at %d, error %d", x.class, v, e)
		}
	}
}

// P17.3: what no handler of a call has goes on from the instruction ahead of the next one of the call ahead.
func TestHandlersOfCallsAhead(t *testing.T) {
	text := "load, @a load, @b call Main.mid:()V, @c nop, @d pop, retv, @x pop, int 1, print, retv, @y pop, int 2, print, retv"
	for _, x := range []struct {
		hand, mid string
		out, end  string
	}{
		{"", "", "", "DivExc"},
		{"@b @c @x Exc", "", "1", ""},
		{"@a @d @x Exc", "", "1", ""},
		{"@a @b @x Exc", "", "", "DivExc"},
		{"@c @d @x Exc", "", "", "DivExc"},
		{"@b @c @x IndexExc", "", "", "DivExc"},
		{"@b @c @x DivExc", "@a @b @h IndexExc", "1", ""},
		{"@b @c @x DivExc", "@b @h @h Exc", "1", ""},
		{"@b @c @x DivExc", "@a @b @h DivExc", "9", ""},
		{"@c @d @x DivExc", "@a @b @h DivExc", "9", ""},
	} {
		var hand, mid []string
		if x.hand != "" {
			hand = []string{x.hand}
		}
		if x.mid != "" {
			mid = []string{x.mid}
		}
		main := mainOf(2, text, hand...).
			Method("mid", "()V", 1, "load, @a call Main.low:()V, @b retv, @h pop, int 9, print, retv", mid...).
			Method("low", "()V", 1, "int 1, int 2, int 0, div, pop, pop, retv")
		w := begun(t, 100, main)
		w.over(0)
		if got := strings.Join(w.Out(), " "); got != x.out || w.End(0) != x.end || w.Calls(0).Deep() != 0 {
			t.Errorf("%s, %s: wrote %q, ended by %q, want %q, %q", x.hand, x.mid, got, w.End(0), x.out, x.end)
		}
	}
	// What came of it, and which calls are left.
	main := mainOf(2, text, "@b @c @y DivExc").
		Method("mid", "()V", 1, "load, call Main.low:()V, retv").
		Method("low", "()V", 1, "int 1, int 2, int 0, div, pop, pop, retv")
	w := begun(t, 100, main)
	w.steps(0, "rrp"+"rp"+"rrr")
	if w.Calls(0).Deep() != 3 {
		t.Errorf("Deep = %d", w.Calls(0).Deep())
	}
	w.steps(0, "p")
	f, _ := w.Calls(0).Top()
	if w.Calls(0).Deep() != 1 || f.Pc != 10 || !slices.Equal(f.Stack, []int64{4}) {
		t.Errorf("it goes on with %v of %d", f, w.Calls(0).Deep())
	}
	w.steps(0, "rrre")
	w.wrote("2")
}

// P17.3: a handler that throws in its own range has what it throws; and a thread that is over by it holds what it held.
func TestHandlersThatThrow(t *testing.T) {
	w := begun(t, 100, mainOf(1, "@a int 1, int 0, div, pop, retv, @h throw, @b retv", "@a @b @h Exc"))
	w.steps(0, "rr"+"pppp")
	w = begun(t, 100, mainOf(1, "load, enter, @a int 1, int 0, div, pop, retv, @h pop, new LE;, throw", "@a @h @h Exc"))
	w.steps(0, "rr"+"rrp"+"rre")
	w.stands(0, exec.Done, "E")
	if who, times, ok := w.Locks().Owner(8); who != 0 || times != 1 || !ok || w.Calls(0).Deep() != 0 {
		t.Errorf("Owner = %d, %d, %v", who, times, ok)
	}
}

// P17.3: what an instruction throws is thrown at that instruction, whatever it took from the stack.
func TestThrownByInstructions(t *testing.T) {
	for _, x := range []string{
		"null, int 5, putf A.x:I", "null, getf A.s:S, pop", "null, cast [I, int 0, aload, pop", "null, cast [I, int 0, int 5, astore", "null, cast [I, alen, pop",
		"null, str a, join, pop", "null, slen, pop", "null, throw", "null, enter", "null, exit", "null, cast LA;, spawn", "null, cast S, print", "null, int 1, call A.twice:(I)I, pop",
	} {
		for _, class := range []string{"Exc", "NullExc", "DivExc"} {
			// The handler is of that one instruction alone; what it leaves is popped behind it.
			x, leaves := strings.CutSuffix(x, ", pop")
			parts := strings.Split("int 6, int 7, "+x, ", ")
			parts[len(parts)-1] = "@a " + parts[len(parts)-1]
			behind := "@b pop, pop, retv, @h pop, int 1, print, retv"
			if leaves {
				behind = "@b pop, pop, pop, retv, @h pop, int 1, print, retv"
			}
			w := ran(t, 100, 1, strings.Join(parts, ", ")+", "+behind, "@a @b @h "+class)
			if class == "DivExc" {
				w.wrote()
				w.stands(0, exec.Done, "NullExc")
			} else {
				w.wrote("1")
				w.stands(0, exec.Done, "")
			}
		}
	}
}

// unusable answers a machine whose main's local 1 is of a thing at a call and at its handler, but can not be used behind the call.
func unusable(t *testing.T) world {
	main := asm.New("Main", "Object", "no B").
		Method("main", "()V", 3, "new LB;, pop, new LA;, store 1, load 1, int 7, putf A.x:I, new LA;, store 2, load, getf Main.no:B, jumpt @c, @a load, call Main.boom:()V, @b load 2, pop, retv, @c int 3, store 1, jump @b, @h pop, load 2, getf A.x:I, print, load 1, getf A.x:I, print, retv", "@a @b @h Exc").
		Method("boom", "()V", 1, "int 1, int 0, div, pop, retv")
	return begun(t, 200, main)
}

// P17.5, P17.6: a local that is not among Roots while a call is at work is null where what that throws is caught, be the heap collected or not.
func TestLocalsThatAreNoRoots(t *testing.T) {
	for every := range 8 {
		w := unusable(t)
		for n := 0; w.State(0) != exec.Done && n < 100; n++ {
			w.Step(0)
			if every > 0 && n%every == 0 {
				w.did("Collect", w.Collect(), api.OK)
			}
			if f, ok := w.Calls(0).Top(); ok && f.Pc >= 20 && w.Calls(0).Deep() == 1 && f.Locals[1] != 0 {
				t.Errorf("the local is %d", f.Locals[1])
			}
		}
		w.wrote("0")
		w.stands(0, exec.Done, "NullExc")
	}
}
