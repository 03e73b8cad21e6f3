package exec_test

import (
	"math"
	"strconv"
	"strings"
	"testing"

	"hornbook/api"
	"hornbook/asm"
	"hornbook/exec"
)

// outcome is a main's code, and what comes of it: all that is written, and how it ends.
type outcome struct {
	code string
	out  string
	end  string
}

// holdAll holds what comes of each.
func holdAll(t *testing.T, l ...outcome) {
	t.Helper()
	for _, x := range l {
		w := ran(t, 2000, 4, x.code+", retv")
		if got := strings.Join(w.Out(), " "); got != x.out || w.End(0) != x.end {
			t.Errorf("%s: wrote %q, ended by %q, want %q, %q", x.code, got, w.End(0), x.out, x.end)
		}
		w.stands(0, exec.Done, x.end)
	}
}

// P17.3: values, locals and the stack.
func TestValues(t *testing.T) {
	holdAll(t,
		outcome{"nop, nop", "", ""},
		outcome{"int 7, print, int -9223372036854775808, print, int 9223372036854775807, print, int 0, print", "7 -9223372036854775808 9223372036854775807 0", ""},
		outcome{"true, print, false, print", "true false", ""},
		outcome{"null, null, eqr, print, null, is LA;, print, null, pop", "true false", ""},
		outcome{"int 1, store 1, int 2, store 3, load 3, print, load 1, print, load 3, load 1, sub, print", "2 1 1", ""},
		outcome{"int 1, store 1, true, store 1, load 1, print", "true", ""},
		outcome{"load, load, eqr, print, load, is LMain;, print", "true true", ""},
		outcome{"int 3, int 4, pop, print", "3", ""},
		outcome{"int 3, dup, print, dup, print, dup, add, print", "3 3 6", ""},
		outcome{"int 1, int 2, int 3, int 4, print, print, print, print", "4 3 2 1", ""},
	)
}

// P17.3: numbers and truths, as arith has it.
func TestNumbers(t *testing.T) {
	for _, x := range []struct {
		op, a, b, want string
	}{
		{"add", "7", "2", "9"}, {"sub", "7", "2", "5"}, {"sub", "2", "7", "-5"}, {"mul", "-7", "2", "-14"},
		{"div", "7", "2", "3"}, {"div", "-7", "2", "-3"}, {"div", "2", "7", "0"}, {"rem", "7", "2", "1"}, {"rem", "-7", "2", "-1"}, {"rem", "7", "-2", "1"}, {"div", "0", "7", "0"}, {"rem", "0", "7", "0"},
		{"add", "9223372036854775807", "1", "-9223372036854775808"}, {"sub", "-9223372036854775808", "1", "9223372036854775807"}, {"mul", "4611686018427387904", "4", "0"},
		{"div", "-9223372036854775808", "-1", "-9223372036854775808"}, {"rem", "-9223372036854775808", "-1", "0"},
		{"lt", "1", "2", "true"}, {"lt", "2", "2", "false"}, {"lt", "3", "2", "false"}, {"le", "1", "2", "true"}, {"le", "2", "2", "true"}, {"le", "3", "2", "false"},
		{"lt", "-9223372036854775808", "9223372036854775807", "true"}, {"eqi", "2", "2", "true"}, {"eqi", "2", "-2", "false"},
		{"div", "7", "0", ""}, {"rem", "7", "0", ""}, {"div", "0", "0", ""}, {"rem", "0", "0", ""},
	} {
		end := ""
		if x.want == "" {
			end = "DivExc"
		}
		holdAll(t, outcome{"int " + x.a + ", int " + x.b + ", " + x.op + ", print", x.want, end})
	}
	for a, is := range map[string]bool{"true": true, "false": false} {
		holdAll(t, outcome{a + ", not, print", strconv.FormatBool(!is), ""})
		for b, also := range map[string]bool{"true": true, "false": false} {
			holdAll(t, outcome{a + ", " + b + ", eqb, print", strconv.FormatBool(is == also), ""})
		}
	}
	holdAll(t,
		outcome{"int 7, neg, print, int -7, neg, print, int 0, neg, print, int -9223372036854775808, neg, print", "-7 7 0 -9223372036854775808", ""},
		outcome{"new LA;, store 1, new LA;, load 1, eqr, print, load 1, load 1, eqr, print, load 1, null, eqr, print", "false true false", ""},
		outcome{"str s, str s, eqr, print, str s, dup, eqr, print, int 0, arr [I, int 0, arr [I, eqr, print", "false true false", ""},
	)
}

// P17.3: jumps go, or do not; they pause behind one that went to its own place, or ahead of it.
func TestJumps(t *testing.T) {
	for _, x := range []struct{ code, came string }{
		{"jump @a, @a retv", "re"},
		{"jump @a, nop, nop, @a retv", "re"},
		{"@a jump @a", "ppp"},
		{"@a nop, jump @a", "rprprp"},
		{"nop, @a nop, nop, jump @a", "rrrprrp"},
		{"true, jumpt @a, nop, @a retv", "rre"},
		{"false, jumpt @a, nop, @a retv", "rrre"},
		{"true, jumpf @a, nop, @a retv", "rrre"},
		{"false, jumpf @a, nop, @a retv", "rre"},
		{"@a true, jumpt @a, retv", "rprprp"},
		{"@a false, jumpt @a, retv", "rre"},
		{"@a true, jumpf @a, retv", "rre"},
		{"@a false, jumpf @a, retv", "rprprp"},
		{"true, @a int 5, pop, jumpt @b, retv, @b true, jump @a", "rrrrrprrrrp"},
	} {
		w := begun(t, 100, mainOf(1, x.code))
		w.steps(0, x.came)
		if w.State(0) != exec.Done && w.State(0) != exec.Ready || (w.State(0) == exec.Done) != strings.HasSuffix(x.came, "e") {
			t.Errorf("%s: it stands %d", x.code, w.State(0))
		}
	}
}

// P17.3: a new thing has its class's fields, all 0; they are told and written.
func TestThings(t *testing.T) {
	holdAll(t,
		outcome{"new LA;, store 1, load 1, getf A.x:I, print, load 1, getf A.ok:B, print, load 1, getf A.next:LA;, null, eqr, print, load 1, getf A.s:S, null, eqr, print", "0 false true true", ""},
		outcome{"new LB;, store 1, load 1, int 5, putf A.x:I, load 1, int 6, putf B.y:I, load 1, true, putf B.ok:B, load 1, load 1, putf B.next:LA;, load 1, str hi, putf A.s:S, load 1, getf B.x:I, print, load 1, getf B.y:I, print, load 1, getf A.ok:B, print, load 1, getf A.next:LA;, load 1, eqr, print, load 1, getf B.s:S, print, load 1, getf B.list:[LA;, null, eqr, print", "5 6 true true hi true", ""},
		outcome{"null, getf A.x:I, print", "", "NullExc"},
		outcome{"null, int 5, putf A.x:I", "", "NullExc"},
		outcome{"new LA;, getf A.next:LA;, getf A.x:I, print", "", "NullExc"},
		outcome{"new LObject;, pop, new LNone;, pop, new LMain;, is LMain;, print, new LDivExc;, is LExc;, print", "true true", ""},
	)
	w := ran(t, 2000, 2, "new LB;, pop, new LObject;, pop, str , pop, str 12345678, pop, str 123456789, pop, int 3, arr [[LA;, pop, retv")
	for i, x := range []struct {
		d    string
		size int
	}{{"LMain;", 0}, {"LB;", 6}, {"LObject;", 0}, {"S", 1}, {"S", 2}, {"S", 3}, {"[[LA;", 4}} {
		at := w.Heap().All()[7+i]
		id, _ := w.Heap().Type(at)
		size, _ := w.Heap().Size(at)
		if d := w.Prog().Types().Name(id); d != x.d || size != x.size {
			t.Errorf("the thing %d is of %q, and has %d words, want %q, %d", i, d, size, x.d, x.size)
		}
	}
}

// P17.3: arrays, and their edges.
func TestArrays(t *testing.T) {
	holdAll(t,
		outcome{"int 2, arr [I, store 1, load 1, int 0, int 50, astore, load 1, int 1, int 51, astore, load 1, int 1, aload, print, load 1, int 0, aload, print, load 1, alen, print", "51 50 2", ""},
		outcome{"int 3, arr [B, store 1, load 1, int 2, aload, print, load 1, int 2, true, astore, load 1, int 2, aload, print, load 1, int 1, aload, print", "false true false", ""},
		outcome{"int 1, arr [LA;, int 0, aload, null, eqr, print, int 1, arr [S, int 0, aload, print", "true", "NullExc"},
		outcome{"int 1, arr [[I, store 1, load 1, int 0, int 4, arr [I, astore, load 1, int 0, aload, alen, print", "4", ""},
		outcome{"int 0, arr [I, alen, print, int 256, arr [I, alen, print, int 256, arr [I, int 255, aload, print", "0 256 0", ""},
		outcome{"int 257, arr [I, pop", "", "IndexExc"},
		outcome{"int -1, arr [I, pop", "", "IndexExc"},
		outcome{"int 9223372036854775807, arr [I, pop", "", "IndexExc"},
		outcome{"int -9223372036854775808, arr [I, pop", "", "IndexExc"},
		outcome{"int 4294967296, arr [I, pop", "", "IndexExc"},
		outcome{"int 3, arr [I, int 3, aload, print", "", "IndexExc"},
		outcome{"int 3, arr [I, int -1, aload, print", "", "IndexExc"},
		outcome{"int 0, arr [I, int 0, aload, print", "", "IndexExc"},
		outcome{"int 3, arr [I, int -9223372036854775808, aload, print", "", "IndexExc"},
		outcome{"int 3, arr [I, int 9223372036854775807, aload, print", "", "IndexExc"},
		outcome{"int 3, arr [I, int 3, int 7, astore", "", "IndexExc"},
		outcome{"int 3, arr [I, int -1, int 7, astore", "", "IndexExc"},
		outcome{"int 3, arr [I, int 4294967296, int 7, astore", "", "IndexExc"},
		outcome{"null, cast [I, int 0, aload, print", "", "NullExc"},
		outcome{"null, cast [I, int -1, aload, print", "", "NullExc"},
		outcome{"null, cast [I, int 0, int 7, astore", "", "NullExc"},
		outcome{"null, cast [I, int -1, int 7, astore", "", "NullExc"},
		outcome{"null, cast [I, alen, print", "", "NullExc"},
	)
}

// P17.3: texts are new ones, of at most 64 bytes.
func TestTexts(t *testing.T) {
	long := strings.Repeat("x", 64)
	half := strings.Repeat("y", 33)
	holdAll(t,
		outcome{"str hi, print, str , print, str " + long + ", print", "hi  " + long, ""},
		outcome{"str ab, str cd, join, print, str ab, str , join, print, str , str , join, slen, print", "abcd ab 0", ""},
		outcome{"str hello, slen, print, str " + long + ", slen, print, str , slen, print", "5 64 0", ""},
		outcome{"str " + half[:32] + ", dup, join, slen, print", "64", ""},
		outcome{"str " + half[:32] + ", str " + half + ", join, slen, print", "", "MemExc"},
		outcome{"str " + long + ", str , join, slen, print, str " + long + ", str z, join, slen, print", "64", "MemExc"},
		outcome{"str z, str " + long + ", join, slen, print", "", "MemExc"},
		outcome{"null, str a, join, print", "", "NullExc"},
		outcome{"str a, null, join, print", "", "NullExc"},
		outcome{"null, null, join, print", "", "NullExc"},
		outcome{"null, slen, print", "", "NullExc"},
		outcome{"null, cast S, print", "", "NullExc"},
		outcome{"str a, str , join, dup, print, str a, eqr, print", "a false", ""},
	)
	// Any bytes.
	for _, s := range []string{"\x00", "\xff\xfe", "a\x00b\n", "12345678", "123456789", "é"} {
		u := mainOf(1, "str x, str y, join, print, retv")
		u.Consts[0].S = s
		w := begun(t, 100, u)
		w.over(0)
		w.wrote(s + "y")
	}
}

// P17.3: a call is of the method that the thing's class has, with the values in their places.
func TestCalls(t *testing.T) {
	holdAll(t,
		outcome{"new LA;, int 21, call A.twice:(I)I, print", "42", ""},
		outcome{"new LA;, call A.name:()S, print, new LB;, call A.name:()S, print, new LB;, call B.name:()S, print", "A B B", ""},
		outcome{"new LB;, int 21, call B.twice:(I)I, print", "42", ""},
		outcome{"int 7, new LA;, int 100, int 20, int 3, call A.minus:(III)I, sub, print", "-70", ""},
		outcome{"new LB;, store 1, load 1, call A.me:()LA;, load 1, eqr, print", "true", ""},
		outcome{"new LB;, call B.more:()V, int 1, print", "1", ""},
		outcome{"null, call A.name:()S, print", "", "NullExc"},
		outcome{"null, int 1, int 2, int 3, call A.minus:(III)I, print", "", "NullExc"},
	)
	w := begun(t, 100, mainOf(2, "int 9, new LA;, int 21, call A.twice:(I)I, store 1, print, load 1, print, retv"))
	w.steps(0, "rrr"+"p")
	l := w.Calls(0).All()
	if len(l) != 2 || l[0].Pc != 4 || len(l[0].Stack) != 1 || l[1].Pc != 0 || l[1].Code != w.Prog().Own("A", "twice") || l[1].Locals[1] != 21 || len(l[1].Stack) != 0 {
		t.Errorf("the calls are %v", l)
	}
	w.steps(0, "rrr"+"r"+"rrrre")
	w.wrote("9", "42")
}

// P17.3: 32 calls within each other; null is asked ahead of that.
func TestCallsTooDeep(t *testing.T) {
	deep := asm.New("Main", "Object", "n I").
		Method("main", "()V", 1, "load, load, getf Main.n:I, int 1, add, putf Main.n:I, load, getf Main.n:I, print, @a load, call Main.main:()V, @b retv, @c pop, null, call Main.main:()V, retv", "@a @b @c StackExc")
	w := begun(t, 100, deep)
	var want []string
	for i := range 32 {
		if w.Calls(0).Deep() != i+1 {
			t.Errorf("Deep = %d, want %d", w.Calls(0).Deep(), i+1)
		}
		w.steps(0, "rrrrrrrrrr"+"p")
		want = append(want, strconv.Itoa(i+1))
	}
	w.wrote(want...)
	if f, _ := w.Calls(0).Top(); f.Pc != 12 || w.Calls(0).Deep() != 32 {
		t.Errorf("the last one is next at %d of %d", f.Pc, w.Calls(0).Deep())
	}
	// It is at the greatest depth, and null all the same.
	w.steps(0, "rre")
	w.stands(0, exec.Done, "NullExc")
	w = begun(t, 100, asm.New("Main", "Object").Method("main", "()V", 1, "load, call Main.main:()V, retv"))
	w.over(0)
	w.stands(0, exec.Done, "StackExc")
}

// P17.3: the value of Ret is on top of the one ahead.
func TestReturns(t *testing.T) {
	main := mainOf(2, "int 1, load, call Main.give:()S, print, print, load, call Main.none:()V, load, call Main.thing:()LObject;, is LB;, print, retv").
		Method("give", "()S", 1, "int 5, int 6, str gift, ret").
		Method("none", "()V", 1, "int 8, retv").
		Method("thing", "()LObject;", 1, "null, new LB;, ret")
	w := begun(t, 100, main)
	w.steps(0, "rrp"+"rrrr"+"rr"+"rp"+"rr"+"rp"+"rrr"+"rre")
	w.wrote("gift", "1", "true")
	w.stands(0, exec.Done, "")
}

// P17.3: what a thing's type can stand for.
func TestTypes(t *testing.T) {
	for _, x := range []struct {
		make, d string
		is      bool
	}{
		{"new LB;", "LB;", true}, {"new LB;", "LA;", true}, {"new LB;", "LObject;", true}, {"new LA;", "LB;", false}, {"new LA;", "LNone;", false}, {"new LA;", "[LA;", false}, {"new LA;", "S", false},
		{"new LE;", "LExc;", true}, {"new LE;", "LDivExc;", true}, {"new LE;", "LIndexExc;", false}, {"new LExc;", "LE;", false},
		{"str a", "S", true}, {"str a", "LObject;", true}, {"str a", "LA;", false}, {"str a", "[I", false},
		{"int 1, arr [LB;", "[LB;", true}, {"int 1, arr [LB;", "LObject;", true}, {"int 1, arr [LB;", "[LA;", false}, {"int 1, arr [LB;", "[LObject;", false}, {"int 1, arr [LB;", "LB;", false},
		{"int 1, arr [[I", "[I", false}, {"int 1, arr [[I", "[[I", true}, {"int 1, arr [I", "[B", false},
	} {
		end, out := "", "true"
		if !x.is {
			end, out = "CastExc", ""
		}
		holdAll(t,
			outcome{x.make + ", is " + x.d + ", print", strconv.FormatBool(x.is), ""},
			outcome{x.make + ", dup, store 1, cast " + x.d + ", load 1, eqr, print", out, end},
			outcome{"null, is " + x.d + ", print, null, cast " + x.d + ", null, eqr, print", "false true", ""},
		)
	}
}

// P17.3: what is thrown, and null.
func TestThrow(t *testing.T) {
	holdAll(t,
		outcome{"null, throw", "", "NullExc"},
		outcome{"new LE;, throw", "", "E"},
		outcome{"new LExc;, throw", "", "Exc"},
		outcome{"new LMemExc;, throw", "", "MemExc"},
		outcome{"new LA;, new LE;, call A.boom:(LExc;)V, int 1, print", "", "E"},
		outcome{"new LA;, null, call A.boom:(LExc;)V, int 1, print", "", "NullExc"},
	)
}

// P17.3: things are held as often as they are entered, by one thread.
func TestLocks(t *testing.T) {
	holdAll(t,
		outcome{"null, enter", "", "NullExc"},
		outcome{"null, exit", "", "NullExc"},
		outcome{"new LA;, exit", "", "LockExc"},
		outcome{"str a, dup, enter, dup, enter, dup, exit, dup, exit, exit", "", "LockExc"},
		outcome{"int 1, arr [I, dup, enter, exit, int 5, print", "5", ""},
	)
	main := mainOf(1, "load, enter, load, enter, load, exit, load, exit, load, exit, retv").Method("run", "()V", 1, "load, exit, retv")
	w := begun(t, 100, main)
	w.start("Main", "run", 1, api.OK)
	w.did("Put", w.Calls(1).Store(0, 8), api.OK)
	w.steps(0, "rrrr")
	if who, times, ok := w.Locks().Owner(8); who != 0 || times != 2 || !ok || w.Locks().Of(0) != 1 {
		t.Errorf("Owner = %d, %d, %v", who, times, ok)
	}
	// Of another thread's it is no exit.
	w.steps(1, "re")
	w.stands(1, exec.Done, "LockExc")
	w.steps(0, "rrrr"+"re")
	w.stands(0, exec.Done, "LockExc")
	if l := w.Locks().Held(); len(l) != 0 {
		t.Errorf("Held = %d", l)
	}
}

// P17.3: a thread waits for what another one holds, and is asked anew.
func TestWaits(t *testing.T) {
	w := begun(t, 100, mainOf(1, "load, enter, load, exit, int 1, print, retv"))
	w.start("Main", "main", 1, api.OK)
	w.Calls(1).Store(0, 8)
	w.steps(0, "rr")
	w.steps(1, "rsss")
	w.stands(1, exec.Waits, "")
	f, _ := w.Calls(1).Top()
	if f.Pc != 1 || len(f.Stack) != 1 || f.Stack[0] != 8 {
		t.Errorf("a thread that waits has %v", f)
	}
	w.steps(0, "rr")
	// The thing is free; it stands so until it is asked.
	w.stands(1, exec.Waits, "")
	w.steps(1, "r")
	w.stands(1, exec.Ready, "")
	w.steps(0, "rre")
	w.steps(1, "rrrre")
	w.wrote("1", "1")
	// What a thread holds that is Done it holds still.
	w = begun(t, 100, mainOf(1, "load, enter, retv"))
	w.start("Main", "main", 1, api.OK)
	w.Calls(1).Store(0, 8)
	w.steps(0, "rre")
	w.steps(1, "rsss")
	if who, times, ok := w.Locks().Owner(8); who != 0 || times != 1 || !ok {
		t.Errorf("Owner = %d, %d, %v", who, times, ok)
	}
	w.roots(1, 2, 3, 4, 5, 6, 7, 8, 8, 8)
}

// P17.3: a thread that would read is hungry, if there is no number; nothing is done.
func TestHungry(t *testing.T) {
	w := begun(t, 100, mainOf(1, "int 4, read, sub, print, retv"))
	w.steps(0, "rsss")
	w.stands(0, exec.Hungry, "")
	if f, _ := w.Calls(0).Top(); f.Pc != 1 || len(f.Stack) != 1 {
		t.Errorf("a thread that is hungry has %v", f)
	}
	w.did("Feed", w.Feed(10), api.OK)
	w.did("Feed", w.Feed(11), api.OK)
	w.steps(0, "r")
	w.stands(0, exec.Ready, "")
	w.steps(0, "rre")
	w.wrote("-6")
	if w.Left() != 1 {
		t.Errorf("Left = %d", w.Left())
	}
}

// P17.3: a thread more, of the method run that the thing's class has.
func TestSpawn(t *testing.T) {
	holdAll(t, outcome{"null, cast LA;, spawn", "", "NullExc"})
	w := begun(t, 100, mainOf(2, "new LA;, store 1, load 1, str hi, putf A.s:S, load 1, spawn, new LB;, spawn, retv"))
	w.steps(0, "rrrrr"+"rr")
	if w.Threads() != 2 || w.Calls(1).Deep() != 1 {
		t.Fatalf("Threads = %d", w.Threads())
	}
	w.stands(1, exec.Ready, "")
	w.steps(0, "rre")
	w.over(2)
	w.over(1)
	w.wrote("70", "hi")
	w.stands(2, exec.Done, "")
}

// P17.3: at most eight threads are not Done; null is asked ahead of that.
func TestSpawnAtLimits(t *testing.T) {
	main := asm.New("Main", "Object", "go B").
		Method("main", "()V", 1, "@a load, spawn, jump @a, @b pop, null, cast LMain;, spawn, @c retv", "@a @b @b MemExc").
		Method("run", "()V", 1, "@a load, getf Main.go:B, jumpf @a, retv")
	w := begun(t, 100, main)
	for range 7 {
		w.steps(0, "rrp")
	}
	w.steps(1, "rrp")
	w.Heap().Set(8, 0, 1)
	w.steps(1, "rrre")
	w.stands(1, exec.Done, "")
	// One is Done, so one more can be.
	w.steps(0, "rrp")
	if w.Threads() != 9 {
		t.Errorf("Threads = %d", w.Threads())
	}
	w.steps(0, "rp")
	if w.Threads() != 9 {
		t.Errorf("Threads = %d", w.Threads())
	}
	w.steps(0, "rrre")
	w.stands(0, exec.Done, "NullExc")
	for i := 2; i < 9; i++ {
		w.stands(i, exec.Ready, "")
	}
}

// P17.3: numbers that are read are taken whatever they are.
func TestReadEdges(t *testing.T) {
	w := begun(t, 100, mainOf(1, "read, print, read, print, read, print, retv"))
	for _, n := range []int64{math.MinInt64, 0, math.MaxInt64} {
		w.did("Feed", w.Feed(n), api.OK)
	}
	w.over(0)
	w.wrote("-9223372036854775808", "0", "9223372036854775807")
}
