package verify_test

import (
	"reflect"
	"slices"
	"strconv"
	"strings"
	"testing"

	"hornbook/api"
	"hornbook/ins"
	"hornbook/kind"
	"hornbook/table"
	"hornbook/verify"
)

// constants are what the code of these tests uses, by their places.
func constants() []api.Const {
	return []api.Const{
		{Kind: api.CInt, N: 3},
		{Kind: api.CStr, S: "text"},
		{Kind: api.CType, S: "LExc;"},
		{Kind: api.CType, S: "[I"},
		{Kind: api.CType, S: "[B"},
		{Kind: api.CType, S: "LA;"},
		{Kind: api.CType, S: "LB;"},
		{Kind: api.CType, S: "LC;"},
		{Kind: api.CType, S: "LDivExc;"},
		{Kind: api.CField, S: "A", T: "x", U: "I"},
		{Kind: api.CField, S: "A", T: "a", U: "LA;"},
		{Kind: api.CMeth, S: "A", T: "n", U: "(LA;I)LB;"},
		{Kind: api.CMeth, S: "B", T: "run", U: "()V"},
		{Kind: api.CType, S: "LMemExc;"},
	}
}

// code answers the instructions of a text: each a name, and an A that is not 0.
func code(t testing.TB, text string) []api.Ins {
	t.Helper()
	var l []api.Ins
	for part := range strings.SplitSeq(text, ",") {
		w := append(strings.Fields(part), "0")
		a, err := strconv.Atoi(w[1])
		op := ins.Find(w[0])
		if err != nil || op < 0 {
			t.Fatalf("%q is no instruction", part)
		}
		l = append(l, api.Ins{Op: op, A: a})
	}
	return l
}

// classes are B and C below A, whose one has a method run, and T with the method m under test.
func classes(m api.Method) []api.Class {
	runs := []api.Ins{{Op: api.RetV}}
	return []api.Class{
		{Name: "A", Super: "Object", Fields: []api.Field{{Name: "x", Desc: "I"}, {Name: "a", Desc: "LA;"}}, Methods: []api.Method{{Name: "n", Sig: "(LA;I)LB;", Locals: 3, Code: []api.Ins{{Op: api.Null}, {Op: api.Ret}}}}},
		{Name: "B", Super: "A", Methods: []api.Method{{Name: "run", Sig: "()V", Locals: 1, Code: runs}}},
		{Name: "C", Super: "A"},
		{Name: "T", Super: "C", Consts: constants(), Methods: []api.Method{m}},
	}
}

// made answers a table.
func made(t testing.TB, l ...api.Class) *table.Table {
	t.Helper()
	x, name, e := table.New(l...)
	if e != api.OK {
		t.Fatalf("New = %q, error %d", name, e)
	}
	return x
}

// method answers one under test.
func method(t testing.TB, sig string, locals int, text string, hand ...api.Hand) api.Method {
	t.Helper()
	return api.Method{Name: "m", Sig: sig, Locals: locals, Code: code(t, text), Hand: hand}
}

// asked answers what Method does of one under test.
func asked(t testing.TB, m api.Method) (verify.Report, api.Errno) {
	t.Helper()
	return verify.Method(made(t, classes(m)...), "T", "m")
}

// none tells whether a Report has nothing.
func none(r verify.Report) bool {
	return len(r.Seen) == 0 && len(r.At) == 0
}

// show answers a Report as a text: of each instruction its locals, a stroke, its stack; "." of one that is not come to.
func show(r verify.Report) string {
	var l []string
	for at, f := range r.At {
		if !r.Seen[at] {
			if len(f.Locals) != 0 || len(f.Stack) != 0 {
				return "a frame that is not come to is not zero"
			}
			l = append(l, ".")
			continue
		}
		locals := slices.Clone(f.Locals)
		for i, d := range locals {
			if d == "" {
				locals[i] = "-"
			}
		}
		l = append(l, strings.Join(locals, " ")+"|"+strings.Join(f.Stack, " "))
	}
	return strings.Join(l, ", ")
}

// P10.1, by hand: what holds ahead of each instruction.
func TestMethodThatCanBeRun(t *testing.T) {
	hand := func(from, to, at int, class string) api.Hand {
		return api.Hand{From: from, To: to, At: at, Class: class}
	}
	for _, x := range []struct {
		sig    string
		locals int
		text   string
		hand   []api.Hand
		want   string
	}{
		{"()I", 1, "int, ret", nil, "LT;|, LT;|I"},
		{"()V", 1, "jump", nil, "LT;|"},
		{"()S", 2, "jump", nil, "LT; -|"},
		{"(I[S)V", 4, "retv", nil, "LT; I [S -|"},
		{"(I)LA;", 2, "load, ret", nil, "LT; I|, LT; I|LT;"},
		// What nothing comes to is not asked.
		{"()V", 1, "retv, pop, int", nil, "LT;|, ., ."},
		{"()V", 1, "jump 2, add, retv, aload", nil, "LT;|, ., LT;|, ."},
		{"()V", 1, "null, throw, retv, retv", nil, "LT;|, LT;|N, ., ."},
		// A loop whose frame changes until it holds.
		{"()V", 2, "null, store 1, int, arr 3, store 1, true, jumpt 2, retv", nil, "LT; -|, LT; -|N, LT; [I|, LT; [I|I, LT; [I|[I, LT; [I|, LT; [I|B, LT; [I|"},
		{"()V", 2, "new 6, store 1, new 5, store 1, new 7, store 1, true, jumpf 1, retv", nil, "!"},
		{"()V", 2, "new 6, store 1, true, jumpf 6, new 7, store 1, load 1, getf 9, pop, jump 2", nil, "LT; -|, LT; -|LB;, LT; LA;|, LT; LA;|B, LT; LA;|, LT; LA;|LC;, LT; LA;|, LT; LA;|LA;, LT; LA;|I, LT; LA;|"},
		{"()V", 2, "int, store 1, true, jumpf 6, str 1, store 1, retv", nil, "LT; -|, LT; -|I, LT; I|, LT; I|B, LT; I|, LT; I|S, LT; -|"},
		{"()V", 2, "int, store 1, true, jumpf 6, str 1, store 1, load 1, pop, retv", nil, "!"},
		// Null is no array, but its Join with one is, whichever comes first.
		{"()V", 1, "true, jumpt 5, int, arr 3, jump 6, null, int, aload, pop, retv", nil, "LT;|, LT;|B, LT;|, LT;|I, LT;|[I, LT;|, LT;|[I, LT;|[I I, LT;|I, LT;|"},
		{"()V", 1, "true, jumpt 6, null, nop, nop, jump 8, int, arr 3, int, aload, pop, retv", nil, "LT;|, LT;|B, LT;|, LT;|N, LT;|N, LT;|N, LT;|, LT;|I, LT;|[I, LT;|[I I, LT;|I, LT;|"},
		{"()V", 1, "true, jumpt 4, new 6, jump 5, null, spawn, retv", nil, "LT;|, LT;|B, LT;|, LT;|LB;, LT;|, LT;|LB;, LT;|"},
		{"()V", 1, "true, jumpt 3, null, jump 4, int, arr 3, nop, alen, pop, retv", nil, "!"},
		{"()V", 1, "null, int, aload, pop, retv", nil, "!"},
		{"()V", 1, "null, spawn, retv", nil, "!"},
		// It can be, behind what comes first alone; but not behind both.
		{"()V", 1, "true, jumpt 5, int, arr 4, jump 9, int, arr 3, nop, nop, alen, pop, retv", nil, "!"},
		{"()V", 1, "true, jumpt 5, int, arr 3, jump 9, int, arr 3, nop, nop, alen, pop, retv", nil, "LT;|, LT;|B, LT;|, LT;|I, LT;|[I, LT;|, LT;|I, LT;|[I, LT;|[I, LT;|[I, LT;|I, LT;|"},
		{"()V", 1, "true, jumpt 4, new 6, jump 5, new 7, spawn, retv", nil, "!"},
		// It goes on behind the last one.
		{"()I", 1, "int", nil, "!"}, {"()V", 1, "int, pop", nil, "!"}, {"()V", 1, "retv, true, jumpt 0", nil, "LT;|, ., ."},
		{"()V", 1, "true, jumpt 0", nil, "!"}, {"()V", 1, "true, jumpf 0", nil, "!"}, {"()V", 1, "jump 2, retv, jump 1", nil, "LT;|, LT;|, LT;|"}, {"()V", 1, "nop", nil, "!"}, {"()V", 1, "true, jumpt 3, retv, nop", nil, "!"},
		// What comes to a place has no Join with what holds there.
		{"()V", 1, "int, jump 0", nil, "!"}, {"()V", 1, "true, jumpf 3, int, retv", nil, "!"}, {"()V", 1, "int, true, jumpf 4, pop, retv", nil, "!"},
		{"()V", 1, "true, jumpt 4, int, jump 5, true, pop, retv", nil, "!"}, {"()V", 1, "true, jumpt 4, int, jump 5, null, pop, retv", nil, "!"},
		{"()V", 1, "true, jumpt 4, new 6, jump 5, new 7, enter, retv", nil, "LT;|, LT;|B, LT;|, LT;|LB;, LT;|, LT;|LA;, LT;|"},
		{"()V", 1, "true, jumpt 4, str 1, jump 5, new 7, enter, retv", nil, "LT;|, LT;|B, LT;|, LT;|S, LT;|, LT;|LObject;, LT;|"},
		// A Step that can not be.
		{"()V", 1, "pop, retv", nil, "!"}, {"()V", 2, "load 1, retv", nil, "!"}, {"()V", 1, "int, ret", nil, "!"}, {"()I", 1, "retv", nil, "!"}, {"()I", 1, "true, ret", nil, "!"}, {"()V", 1, "load, getf 9, pop, load, getf 10, getf 9, pop, load, load, int, call 11, call 12, retv", nil, "LT;|, LT;|LT;, LT;|I, LT;|, LT;|LT;, LT;|LA;, LT;|I, LT;|, LT;|LT;, LT;|LT; LT;, LT;|LT; LT; I, LT;|LB;, LT;|"}, {"()V", 1, "load, call 12, retv", nil, "!"},
		// Handlers: just a value of the class, and the locals ahead.
		{"()V", 1, "new 2, throw, retv, pop, retv", []api.Hand{hand(0, 2, 3, "Exc")}, "LT;|, LT;|LExc;, ., LT;|LExc;, LT;|"},
		{"()V", 2, "int, store 1, retv, pop, load 1, pop, retv", []api.Hand{hand(2, 3, 3, "DivExc")}, "LT; -|, LT; -|I, LT; I|, LT; I|LDivExc;, LT; I|, LT; I|I, LT; I|"},
		{"()V", 2, "int, store 1, retv, pop, load 1, pop, retv", []api.Hand{hand(1, 2, 3, "DivExc")}, "!"},
		{"()V", 2, "int, store 1, retv, pop, load 1, pop, retv", []api.Hand{hand(1, 3, 3, "DivExc")}, "!"},
		{"()V", 2, "int, store 1, retv, pop, retv", []api.Hand{hand(1, 3, 3, "DivExc")}, "LT; -|, LT; -|I, LT; I|, LT; -|LDivExc;, LT; -|"},
		{"()V", 2, "int, store 1, str 1, store 1, retv, pop, retv", []api.Hand{hand(2, 5, 5, "Exc")}, "LT; -|, LT; -|I, LT; I|, LT; I|S, LT; S|, LT; -|LExc;, LT; -|"},
		{"(I)V", 2, "retv, retv, throw", []api.Hand{hand(0, 1, 2, "MemExc")}, "LT; I|, ., LT; I|LMemExc;"},
		{"(I)V", 2, "retv, retv, throw", []api.Hand{hand(1, 2, 2, "MemExc")}, "LT; I|, ., ."},
		// More than one, of an instruction, and to a place.
		{"()V", 1, "retv, throw", []api.Hand{hand(0, 1, 1, "DivExc"), hand(0, 1, 1, "MemExc")}, "LT;|, LT;|LExc;"},
		{"()V", 1, "nop, retv, throw, pop, retv", []api.Hand{hand(0, 1, 2, "DivExc"), hand(1, 2, 3, "MemExc"), hand(0, 2, 3, "DivExc")}, "LT;|, LT;|, LT;|LDivExc;, LT;|LExc;, LT;|"},
		{"()V", 1, "new 8, throw", []api.Hand{hand(0, 2, 1, "MemExc")}, "LT;|, LT;|LExc;"},
		{"()V", 1, "new 2, pop, retv", []api.Hand{hand(0, 3, 1, "Exc")}, "LT;|, LT;|LExc;, LT;|"},
		{"()V", 1, "nop, retv", []api.Hand{hand(0, 1, 1, "Exc")}, "!"}, {"()V", 1, "nop, retv", []api.Hand{hand(0, 1, 0, "Exc")}, "!"}, {"()V", 1, "int, pop, retv", []api.Hand{hand(0, 1, 1, "Exc")}, "!"},
		{"()V", 1, "retv, nop", []api.Hand{hand(0, 1, 1, "Exc")}, "!"}, {"()V", 1, "retv, ret", []api.Hand{hand(0, 1, 1, "Exc")}, "!"}, {"()LExc;", 1, "jump, ret", []api.Hand{hand(0, 1, 1, "DivExc")}, "LT;|, LT;|LDivExc;"},
		// What is thrown at an instruction in a handler goes to the next one.
		{"()V", 1, "retv, throw, pop, retv", []api.Hand{hand(0, 1, 1, "Exc"), hand(1, 2, 2, "DivExc")}, "LT;|, LT;|LExc;, LT;|LDivExc;, LT;|"},
		// Each handler's class stands for Exc, also where nothing comes to it.
		{"()V", 1, "retv", []api.Hand{hand(0, 1, 0, "A")}, "!"}, {"()V", 1, "retv, throw", []api.Hand{hand(0, 1, 1, "Object")}, "!"}, {"()V", 1, "retv, pop, retv", []api.Hand{hand(0, 1, 1, "Z")}, "!"},
		{"()V", 1, "retv, nop, throw", []api.Hand{hand(1, 2, 2, "Exc"), hand(1, 2, 2, "B")}, "!"}, {"()V", 1, "retv, nop, throw", []api.Hand{hand(1, 2, 2, "Z")}, "!"}, {"()V", 1, "retv, nop, throw", []api.Hand{hand(1, 2, 2, "LockExc")}, "LT;|, ., ."},
	} {
		r, e := asked(t, method(t, x.sig, x.locals, x.text, x.hand...))
		switch {
		case x.want == "!" && (e != api.ErrVerify || !none(r)):
			t.Errorf("%q with %v can be run: %s, error %d", x.text, x.hand, show(r), e)
		case x.want != "!" && (e != api.OK || show(r) != x.want || len(r.Seen) != len(r.At)):
			t.Errorf("%q with %v: %s, error %d, want %s", x.text, x.hand, show(r), e, x.want)
		}
	}
}

// P10.1: at the limits of the stack and the code.
func TestMethodOfHowMany(t *testing.T) {
	for n := range 20 {
		r, e := asked(t, method(t, "()V", 24, strings.Repeat("int,", n)+"retv"))
		if n <= api.MaxStack && (e != api.OK || verify.Deep(r) != n || len(r.At[n].Stack) != n || len(r.At[n].Locals) != 24) || n > api.MaxStack && (e != api.ErrVerify || !none(r)) {
			t.Errorf("of %d values: %s, error %d", n, show(r), e)
		}
	}
	for _, n := range []int{1, 100, 511} {
		if r, e := asked(t, method(t, "()V", 1, strings.Repeat("nop,", n)+"retv")); e != api.OK || len(r.Seen) != n+1 || slices.Contains(r.Seen, false) {
			t.Errorf("of %d instructions: error %d", n+1, e)
		}
		if r, e := asked(t, method(t, "()V", 1, strings.Repeat("nop,", n)+"nop")); e != api.ErrVerify || !none(r) {
			t.Errorf("of %d instructions: error %d", n+1, e)
		}
	}
}

// P10.1 and P10.2: errors that are none of a method's code.
func TestMethodThatThereIsNot(t *testing.T) {
	x := made(t, classes(method(t, "()V", 1, "retv"))...)
	for _, w := range [][2]string{{"T", "n"}, {"T", "run"}, {"T", ""}, {"B", "n"}, {"C", "m"}, {"Z", "m"}, {"", ""}, {"", "m"}, {"Object", "m"}, {"Exc", "run"}, {"A", "x"}, {"T", "M"}} {
		if r, e := verify.Method(x, w[0], w[1]); e != api.ErrNone || !none(r) {
			t.Errorf("Method(%q) = %s, error %d", w, show(r), e)
		}
	}
	for _, w := range [][2]string{{"T", "m"}, {"A", "n"}, {"B", "run"}} {
		if r, e := verify.Method(x, w[0], w[1]); e != api.OK || none(r) {
			t.Errorf("Method(%q) = %s, error %d", w, show(r), e)
		}
		if r, e := verify.Method(nil, w[0], w[1]); e != api.ErrNil || !none(r) {
			t.Errorf("Method(nil, %q) = %s, error %d", w, show(r), e)
		}
	}
	if r, e := verify.Method(nil, "", "none"); e != api.ErrNil || !none(r) {
		t.Errorf("Method(nil) = %s, error %d", show(r), e)
	}
	if class, name, e := verify.All(nil); class != "" || name != "" || e != api.ErrNil {
		t.Errorf("All(nil) = %q, %q, error %d", class, name, e)
	}
	if class, name, e := verify.All(&table.Table{}); class != "" || name != "" || e != api.OK {
		t.Errorf("All of no classes = %q, %q, error %d", class, name, e)
	}
	if class, name, e := verify.All(made(t)); class != "" || name != "" || e != api.OK {
		t.Errorf("All of no classes = %q, %q, error %d", class, name, e)
	}
}

// P10.2: the first one of all, in the order in which they were handed in.
func TestAllTellsTheFirst(t *testing.T) {
	methods := func(texts ...string) []api.Method {
		var l []api.Method
		for i, text := range texts {
			l = append(l, api.Method{Name: "m" + strconv.Itoa(i), Sig: "()V", Locals: 1, Code: code(t, text)})
		}
		return l
	}
	for _, x := range []struct {
		a, b, c     []api.Method
		class, name string
	}{
		{nil, nil, nil, "", ""},
		{methods("retv", "jump"), methods("retv"), nil, "", ""},
		{methods("retv", "nop"), methods("nop"), methods("nop"), "C", "m0"},
		{methods("retv", "nop"), methods("nop"), methods("retv"), "A", "m1"},
		{methods("retv", "retv"), methods("retv", "pop", "nop"), methods("retv"), "B", "m1"},
		{nil, nil, methods("retv", "retv", "add, retv"), "C", "m2"},
	} {
		// C is handed in first, though it stands lowest.
		y := made(t, api.Class{Name: "C", Super: "B", Methods: x.c}, api.Class{Name: "A", Super: "Exc", Methods: x.a}, api.Class{Name: "B", Super: "A", Methods: x.b})
		class, name, e := verify.All(y)
		if class != x.class || name != x.name || (e == api.OK) != (x.class == "") || e != api.OK && e != api.ErrVerify {
			t.Errorf("All = %q, %q, error %d, want %q, %q", class, name, e, x.class, x.name)
		}
	}
}

// P10.2, by hand, of Reports that nobody answered.
func TestDeepAndMaps(t *testing.T) {
	f := func(locals, stack string) kind.Frame {
		return kind.Frame{Locals: strings.Fields(locals), Stack: strings.Fields(stack)}
	}
	r := verify.Report{Seen: []bool{true, true, false}, At: []kind.Frame{f("LA; I N", ""), f("", "I S B [I"), f("S", "N N")}}
	if verify.Deep(r) != 4 || verify.Deep(verify.Report{}) != 0 || verify.Deep(verify.Report{Seen: []bool{true}}) != 0 || verify.Deep(verify.Report{At: r.At[2:]}) != 2 || verify.Deep(verify.Report{At: r.At[:1]}) != 0 {
		t.Errorf("Deep = %d", verify.Deep(r))
	}
	for at, want := range map[int][2][]int{0: {{0, 2}, nil}, 1: {nil, {1, 3}}, 2: {{0}, {0, 1}}, 3: {}, -1: {}, 4: {}, 1 << 62: {}, -1 << 62: {}} {
		l, s := verify.Maps(r, at)
		if !slices.Equal(l, want[0]) || !slices.Equal(s, want[1]) {
			t.Errorf("Maps(%d) = %v, %v, want %v", at, l, s, want)
		}
	}
	if l, s := verify.Maps(verify.Report{}, 0); len(l) != 0 || len(s) != 0 {
		t.Errorf("Maps of none = %v, %v", l, s)
	}
	if l, s := verify.Maps(verify.Report{Seen: []bool{true}}, 0); len(l) != 0 || len(s) != 0 {
		t.Errorf("Maps of none = %v, %v", l, s)
	}
	r, e := asked(t, method(t, "(IS[BLT;B)V", 8, "load 2, load 1, null, retv"))
	if l, s := verify.Maps(r, 3); e != api.OK || verify.Deep(r) != 3 || !slices.Equal(l, []int{0, 2, 3, 4}) || !slices.Equal(s, []int{0, 2}) {
		t.Errorf("Maps = %v, %v, Deep %d, error %d", l, s, verify.Deep(r), e)
	}
}

// Rule 4 of the document: no two lists of a Report share memory, nor do two Reports.
func TestReportsShareNoMemory(t *testing.T) {
	hand := func(from, to, at int, class string) api.Hand {
		return api.Hand{From: from, To: to, At: at, Class: class}
	}
	for _, m := range []api.Method{
		// Both places behind a jump are come to once, and so is the handler.
		method(t, "(I)V", 3, "load, true, jumpt 5, pop, retv, pop, retv, throw", hand(0, 1, 7, "DivExc")),
		// Each place is come to more than once.
		method(t, "(I)V", 3, "load, true, jumpt 4, nop, nop, pop, true, jumpf 6, retv, throw, retv", hand(0, 9, 9, "DivExc"), hand(0, 5, 9, "MemExc")),
	} {
		x := made(t, classes(m)...)
		want, e := verify.Method(x, "T", "m")
		if e != api.OK {
			t.Fatalf("error %d", e)
		}
		for i := range want.At {
			for _, list := range []func(f kind.Frame) []string{func(f kind.Frame) []string { return f.Locals }, func(f kind.Frame) []string { return f.Stack }} {
				r, _ := verify.Method(x, "T", "m")
				spoilt := list(r.At[i])
				kept := slices.Clone(spoilt)
				spoil(spoilt)
				copy(spoilt, kept)
				if !reflect.DeepEqual(r, want) {
					t.Errorf("behind what holds ahead of %d there is more of the Report: %s", i, show(r))
				}
				spoil(spoilt)
				if len(spoilt) > 0 && show(r) == show(want) {
					t.Fatalf("nothing is spoilt")
				}
				others := slices.Delete(slices.Clone(r.At), i, i+1)
				if !reflect.DeepEqual(others, slices.Delete(slices.Clone(want.At), i, i+1)) {
					t.Errorf("what holds ahead of %d shares memory: %s", i, show(r))
				}
				if again, _ := verify.Method(x, "T", "m"); show(again) != show(want) {
					t.Errorf("then %s, now %s", show(want), show(again))
				}
			}
		}
	}
}

// spoil writes into a list, and behind it.
func spoil(l []string) {
	l = l[:cap(l)]
	for i := range l {
		l[i] = "spoilt"
	}
}
