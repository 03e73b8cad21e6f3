package link_test

import (
	"math"
	"reflect"
	"slices"
	"strconv"
	"strings"
	"testing"

	"hornbook/api"
	"hornbook/ins"
	"hornbook/link"
	"hornbook/table"
	"hornbook/verify"
)

// constants are what the code of these tests uses, by their places.
func constants() []api.Const {
	return []api.Const{
		{Kind: api.CInt, N: math.MinInt64},
		{Kind: api.CStr, S: "text"},
		{Kind: api.CType, S: "LB;"},
		{Kind: api.CType, S: "[I"},
		{Kind: api.CType, S: "[[LA;"},
		{Kind: api.CField, S: "A", T: "x", U: "I"},
		{Kind: api.CField, S: "T", T: "x", U: "I"},
		{Kind: api.CField, S: "B", T: "s", U: "S"},
		{Kind: api.CField, S: "A", T: "me", U: "LA;"},
		{Kind: api.CMeth, S: "A", T: "n", U: "(LA;I)LB;"},
		{Kind: api.CMeth, S: "T", T: "n", U: "(LA;I)LB;"},
		{Kind: api.CMeth, S: "B", T: "run", U: "()V"},
		// Of what there is not.
		{Kind: api.CField, S: "Z", T: "x", U: "[S"},
		{Kind: api.CField, S: "A", T: "s", U: "S"},
		{Kind: api.CMeth, S: "Z", T: "n", U: "(LA;I)LB;"},
		{Kind: api.CMeth, S: "A", T: "run", U: "()V"},
		{Kind: api.CType, S: "LZ;"},
	}
}

// code answers the instructions of a text: each a name, and an A that is not 0.
func code(t testing.TB, text string) []api.Ins {
	t.Helper()
	var l []api.Ins
	for part := range strings.SplitSeq(text, ",") {
		w := append(strings.Fields(part), "0")
		a, err := strconv.Atoi(w[1])
		op := ins.Find(w[0])
		if err != nil || op < 0 {
			t.Fatalf("%q is no instruction", part)
		}
		l = append(l, api.Ins{Op: op, A: a})
	}
	return l
}

// method answers one of a text.
func method(t testing.TB, name, sig string, locals int, text string, hand ...api.Hand) api.Method {
	t.Helper()
	return api.Method{Name: name, Sig: sig, Locals: locals, Code: code(t, text), Hand: hand}
}

// family answers T below B below A, in another order; T's first method is m.
func family(t testing.TB, m api.Method) []api.Class {
	t.Helper()
	n := method(t, "n", "(LA;I)LB;", 3, "null, ret")
	return []api.Class{
		{Name: "T", Super: "B", Consts: constants(), Fields: []api.Field{{Name: "list", Desc: "[I"}, {Name: "ok", Desc: "B"}}, Methods: []api.Method{m, method(t, "own", "()V", 1, "retv")}},
		{Name: "A", Super: "Object", Fields: []api.Field{{Name: "me", Desc: "LA;"}, {Name: "x", Desc: "I"}}, Methods: []api.Method{n}},
		{Name: "E", Super: "DivExc"},
		{Name: "B", Super: "A", Fields: []api.Field{{Name: "s", Desc: "S"}}, Methods: []api.Method{method(t, "run", "()V", 1, "retv"), n}},
	}
}

// tableOf answers a table.
func tableOf(t testing.TB, l ...api.Class) *table.Table {
	t.Helper()
	x, name, e := table.New(l...)
	if e != api.OK {
		t.Fatalf("table.New = %q, error %d", name, e)
	}
	return x
}

// made answers a program of classes, and its types.
func made(t testing.TB, l ...api.Class) (*link.Prog, *link.Types) {
	t.Helper()
	x, y := tableOf(t, l...), link.NewTypes()
	p, e := link.New(x, y)
	if p == nil || e != api.OK {
		t.Fatalf("New = %v, error %d", p != nil, e)
	}
	if p.Table() != x || p.Types() != y {
		t.Error("Table and Types are others than those that were handed in")
	}
	return p, y
}

// codeOf answers the method that has a number.
func codeOf(t testing.TB, p *link.Prog, id int) link.Code {
	t.Helper()
	x, ok := p.Code(id)
	if !ok {
		t.Fatalf("there is no Code(%d)", id)
	}
	return x
}

// show answers instructions as a text: of each its name, and what is not 0 or empty.
func show(ops []link.Op) string {
	var l []string
	for _, o := range ops {
		s := ins.Name(o.Op)
		if o.A != 0 {
			s += " a" + strconv.Itoa(o.A)
		}
		if o.B != 0 {
			s += " b" + strconv.Itoa(o.B)
		}
		if o.N != 0 {
			s += " n" + strconv.FormatInt(o.N, 10)
		}
		if o.S != "" {
			s += " s" + o.S
		}
		l = append(l, s)
	}
	return strings.Join(l, ", ")
}

// P11.1: numbers in the order in which types are first asked for.
func TestTypes(t *testing.T) {
	for _, y := range []*link.Types{link.NewTypes(), {}} {
		if y.Len() != 0 || y.Name(0) != "" {
			t.Errorf("of none: Len %d, Name %q", y.Len(), y.Name(0))
		}
		types := []string{"LB;", "I", "[[[[S", "S", "N", "LA;", "V", "", "B", "no type", "[LA;", "\x00\xff", "LB;;", " I"}
		for range 3 {
			for i, d := range types {
				if id := y.Id(d); id != i {
					t.Errorf("Id(%q) = %d, want %d", d, id, i)
				}
				if d := y.Name(i); d != types[i] {
					t.Errorf("Name(%d) = %q, want %q", i, d, types[i])
				}
			}
			if y.Len() != len(types) {
				t.Errorf("Len = %d, want %d", y.Len(), len(types))
			}
		}
		for _, id := range []int{math.MinInt, -1, len(types), math.MaxInt} {
			if d := y.Name(id); d != "" {
				t.Errorf("Name(%d) = %q", id, d)
			}
		}
		// What is asked of numbers makes none.
		if y.Len() != len(types) {
			t.Errorf("Len = %d behind Name, want %d", y.Len(), len(types))
		}
	}
}

// P11.1: of many, and each Types has its own.
func TestManyTypes(t *testing.T) {
	y, z := link.NewTypes(), link.NewTypes()
	for i := range 3000 {
		if id := y.Id("L" + strconv.Itoa(i) + ";"); id != i {
			t.Fatalf("Id of the type %d = %d", i, id)
		}
	}
	if z.Len() != 0 || z.Id("L7;") != 0 || y.Id("L7;") != 7 || y.Len() != 3000 || z.Len() != 1 {
		t.Errorf("Len %d, and %d of other types", y.Len(), z.Len())
	}
}

// holdNone holds what a program answers that has nothing.
func holdNone(t *testing.T, p *link.Prog) {
	t.Helper()
	if p.Table() != nil || p.Types() != nil || p.Codes() != 0 {
		t.Errorf("Table %v, Types %v, Codes %d", p.Table(), p.Types(), p.Codes())
	}
	for _, i := range []int{math.MinInt, -1, 0, 1, math.MaxInt} {
		if x, ok := p.Code(i); ok || !reflect.DeepEqual(x, link.Code{}) {
			t.Errorf("Code(%d) = %v, %v", i, x, ok)
		}
		if id := p.Of("Object", i); id != -1 {
			t.Errorf("Of(Object, %d) = %d", i, id)
		}
		if x, ok := p.Shape(i); ok || !reflect.DeepEqual(x, link.Shape{}) {
			t.Errorf("Shape(%d) = %v, %v", i, x, ok)
		}
		if p.Sub(i, "LObject;") || p.Sub(i, "") {
			t.Errorf("Sub(%d, ..)", i)
		}
	}
	if p.Own("Object", "run") != -1 || p.Own("", "") != -1 {
		t.Error("Own")
	}
}

// P11.1, P11.2, P11.3: of nil; and of what New did not make.
func TestNil(t *testing.T) {
	holdNone(t, nil)
	holdNone(t, &link.Prog{})
	var y *link.Types
	if y.Id("I") != -1 || y.Id("") != -1 || y.Name(0) != "" || y.Name(-1) != "" || y.Len() != 0 {
		t.Errorf("of nil types: Id %d, Name %q, Len %d", y.Id("I"), y.Name(0), y.Len())
	}
	stuck := tableOf(t, family(t, method(t, "m", "()V", 1, "pop, retv"))...)
	for _, x := range []struct {
		t *table.Table
		y *link.Types
	}{{nil, nil}, {nil, link.NewTypes()}, {stuck, nil}, {tableOf(t), nil}} {
		if p, e := link.New(x.t, x.y); p != nil || e != api.ErrNil {
			t.Errorf("New(%v, %v) = %v, error %d", x.t != nil, x.y != nil, p != nil, e)
		}
	}
}

// P11.2: a program is of methods that can all be run.
func TestNewOfWhatCanNotBeRun(t *testing.T) {
	for _, text := range []string{"pop, retv", "int", "load 3, retv", "getf 12, retv", "true, jumpt 3, int, retv", "null, throw, retv"} {
		for _, last := range []bool{false, true} {
			l := family(t, method(t, "m", "()V", 4, text))
			if last {
				slices.Reverse(l)
			}
			x := tableOf(t, l...)
			y := link.NewTypes()
			p, e := link.New(x, y)
			_, _, want := verify.All(x)
			if e != want || (p != nil) != (want == api.OK) || y.Len() != 0 {
				t.Errorf("New with %q = %v, error %d, want error %d; %d types", text, p != nil, e, want, y.Len())
			}
		}
	}
	p, _ := made(t)
	if _, ok := p.Code(0); p.Codes() != 0 || ok || p.Of("Object", 0) != -1 || p.Own("Object", "run") != -1 {
		t.Errorf("of no classes: Codes %d, a Code %v", p.Codes(), ok)
	}
	p, _ = made(t, api.Class{Name: "A", Super: "Object"})
	if p.Codes() != 0 {
		t.Errorf("of a class without methods: Codes %d", p.Codes())
	}
}

// The chapter's example.
func TestExample(t *testing.T) {
	p, _ := made(t, api.Class{Name: "A", Super: "Object", Consts: []api.Const{{Kind: api.CInt, N: 5}}, Fields: []api.Field{{Name: "x", Desc: "I"}},
		Methods: []api.Method{method(t, "m", "()I", 1, "int, ret")}})
	if x := codeOf(t, p, 0); p.Codes() != 1 || !slices.Equal(x.Ops, []link.Op{{Op: api.Int, N: 5}, {Op: api.Ret}}) {
		t.Errorf("Codes %d, Code(0) %v", p.Codes(), x)
	}
}

// P11.2: instructions with their constants put in.
func TestOps(t *testing.T) {
	for _, x := range []struct{ text, want string }{
		{"nop, int, pop, str 1, pop, true, pop, false, pop, null, pop, retv", "nop, int n-9223372036854775808, pop, str stext, pop, true, pop, false, pop, null, pop, retv"},
		{"load, store 3, load 2, dup, add, int, sub, int, mul, int, div, int, rem, neg, store 2, retv", "load, store a3, load a2, dup, add, int n-9223372036854775808, sub, int n-9223372036854775808, mul, int n-9223372036854775808, div, int n-9223372036854775808, rem, neg, store a2, retv"},
		{"load 2, load 2, lt, not, load 2, load 2, le, eqb, pop, load 2, load 2, eqi, pop, null, null, eqr, pop, retv", "load a2, load a2, lt, not, load a2, load a2, le, eqb, pop, load a2, load a2, eqi, pop, null, null, eqr, pop, retv"},
		// Places of instructions and of locals stay.
		{"jump 2, retv, true, jumpt 1, false, jumpf 0, jump 6", "jump a2, retv, true, jumpt a1, false, jumpf, jump a6"},
		// Types.
		{"new 2, is 2, pop, load 2, arr 3, cast 4, is 3, pop, retv", "new sLB;, is sLB;, pop, load a2, arr s[I, cast s[[LA;, is s[I, pop, retv"},
		// Fields: of the class above, asked for by its own name and by one below; a place is the Layout's.
		{"load, getf 5, pop, load, getf 6, pop, load, getf 7, pop, load, getf 8, pop, retv", "load, getf a1 sI, pop, load, getf a1 sI, pop, load, getf a2 sS, pop, load, getf sLA;, pop, retv"},
		{"load, load 2, putf 5, load, load 2, putf 6, load, str 1, putf 7, load, null, putf 8, retv", "load, load a2, putf a1 sI, load, load a2, putf a1 sI, load, str stext, putf a2 sS, load, null, putf sLA;, retv"},
		// Methods: of the class above, and of one below.
		{"load, load, load 2, call 9, pop, load, load, load 2, call 10, pop, load, call 11, retv", "load, load, load a2, call b3 s(LA;I)LB;, pop, load, load, load a2, call b3 s(LA;I)LB;, pop, load, call a1 b1 s()V, retv"},
		// Print has the type ahead of it.
		{"load 2, print, true, print, str 1, print, load 1, load 2, aload, print, retv", "load a2, print sI, true, print sB, str stext, print sS, load a1, load a2, aload, print sI, retv"},
		{"load 1, load 2, load 2, astore, load 1, alen, pop, read, pop, str 1, str 1, join, slen, pop, retv", "load a1, load a2, load a2, astore, load a1, alen, pop, read, pop, str stext, str stext, join, slen, pop, retv"},
		{"load, enter, load, exit, load, spawn, null, throw", "load, enter, load, exit, load, spawn, null, throw"},
		// What is not come to has its constants put in, too; but the type that would be printed is none.
		{"retv, print, int, str 1, load 3, jump 1, getf 6, call 11, new 2, retv", "retv, print, int n-9223372036854775808, str stext, load a3, jump a1, getf a1 sI, call a1 b1 s()V, new sLB;, retv"},
		// It may speak of what there is not.
		{"retv, getf 12, putf 13, call 14, call 15, new 16, cast 16", "retv, getf a-1 s[S, putf a-1 sS, call a-1 b3 s(LA;I)LB;, call a-1 b1 s()V, new sLZ;, cast sLZ;"},
	} {
		p, y := made(t, family(t, method(t, "m", "([II)V", 4, x.text))...)
		if got := show(codeOf(t, p, 0).Ops); got != x.want {
			t.Errorf("%q:\n%s, want\n%s", x.text, got, x.want)
		}
		if y.Len() != 0 {
			t.Errorf("%d types have numbers that nobody asked for", y.Len())
		}
	}
}

// P11.2: what a method takes and gives, its locals and its handlers, and the places of things.
func TestCode(t *testing.T) {
	hand := []api.Hand{{From: 0, To: 3, At: 6, Class: "DivExc"}, {From: 1, To: 2, At: 6, Class: "E"}}
	for _, x := range []struct {
		sig       string
		locals    int
		text      string
		hand      []api.Hand
		takes     int
		gives     bool
		low, high string
	}{
		{"()V", 1, "retv", nil, 1, false, "[[0]]", "[[]]"},
		{"(I)I", 2, "load 1, ret", nil, 2, true, "[[0] [0]]", "[[] []]"},
		{"(I[IBSLA;[[LA;)[I", 24, "load 6, load 3, load 4, load, load 2, null, load 2, ret", nil, 7, true,
			"[[0 2 4 5 6] [0 2 4 5 6] [0 2 4 5 6] [0 2 4 5 6] [0 2 4 5 6] [0 2 4 5 6] [0 2 4 5 6] [0 2 4 5 6]]",
			"[[] [0] [0] [0 2] [0 2 3] [0 2 3 4] [0 2 3 4 5] [0 2 3 4 5 6]]"},
		// Null is of things; a local that can not be used is not, nor what is not come to.
		{"()V", 3, "null, store 1, true, store 2, retv, null, jump 5", nil, 1, false, "[[0] [0] [0 1] [0 1] [0 1] [] []]", "[[] [0] [] [] [] [] []]"},
		{"(I)V", 4, "int, store 3, true, jumpt 6, null, store 3, jump 6", nil, 2, false, "[[0] [0] [0] [0] [0] [0] [0]]", "[[] [] [] [] [] [0] []]"},
		{"(I)V", 3, "null, store 2, null, true, jumpt 5, jump 5", nil, 2, false, "[[0] [0] [0 2] [0 2] [0 2] [0 2]]", "[[] [0] [] [0] [0] [0]]"},
		// A handler begins with what was thrown.
		{"(I)V", 3, "int, int, div, store 1, jump 5, retv, store 2, jump 5", hand, 2, false, "[[0] [0] [0] [0] [0] [0] [0] [0 2]]", "[[] [] [] [] [] [] [0] []]"},
	} {
		l := family(t, method(t, "m", x.sig, x.locals, x.text, x.hand...))
		p, _ := made(t, l...)
		c := codeOf(t, p, 0)
		if c.Class != "T" || c.Name != "m" || c.Takes != x.takes || c.Gives != x.gives || c.Locals != x.locals || !slices.Equal(c.Hand, x.hand) {
			t.Errorf("%q: %s.%s takes %d, gives %v, %d locals, handlers %v", x.text, c.Class, c.Name, c.Takes, c.Gives, c.Locals, c.Hand)
		}
		if low, high := showAll(c.Low), showAll(c.High); low != x.low || high != x.high || len(c.Ops) != len(c.Low) || len(c.Ops) != len(c.High) {
			t.Errorf("%q: Low %s, High %s, want %s, %s", x.text, low, high, x.low, x.high)
		}
	}
}

// showAll answers lists as a text.
func showAll(l [][]int) string {
	var all []string
	for _, x := range l {
		var one []string
		for _, v := range x {
			one = append(one, strconv.Itoa(v))
		}
		all = append(all, "["+strings.Join(one, " ")+"]")
	}
	return "[" + strings.Join(all, " ") + "]"
}

// P11.2: numbers of methods, class by class as they were handed in, and which one a class has at a place.
func TestNumbersOfMethods(t *testing.T) {
	p, _ := made(t, family(t, method(t, "m", "()V", 1, "retv"))...)
	var l []string
	for id := range p.Codes() {
		x := codeOf(t, p, id)
		l = append(l, x.Class+"."+x.Name)
		if got := p.Own(x.Class, x.Name); got != id {
			t.Errorf("Own(%s, %s) = %d, want %d", x.Class, x.Name, got, id)
		}
	}
	if got := strings.Join(l, " "); got != "T.m T.own A.n B.run B.n" {
		t.Errorf("the methods are %s", got)
	}
	for _, id := range []int{math.MinInt, -1, 5, 6, math.MaxInt} {
		if x, ok := p.Code(id); ok || !reflect.DeepEqual(x, link.Code{}) {
			t.Errorf("Code(%d) = %v, %v", id, x, ok)
		}
	}
	for _, x := range []struct{ class, name string }{{"T", "n"}, {"T", "run"}, {"A", "m"}, {"A", "run"}, {"Z", "m"}, {"", "m"}, {"T", ""}, {"Object", "m"}, {"m", "T"}, {"E", "own"}} {
		if id := p.Own(x.class, x.name); id != -1 {
			t.Errorf("Own(%s, %s) = %d", x.class, x.name, id)
		}
	}
	for class, want := range map[string][]int{"A": {2}, "B": {4, 3}, "T": {4, 3, 0, 1}, "E": nil, "Object": nil, "Exc": nil, "Z": nil, "": nil, "LA;": nil} {
		for place, id := range want {
			if got := p.Of(class, place); got != id {
				t.Errorf("Of(%s, %d) = %d, want %d", class, place, got, id)
			}
		}
		for _, place := range []int{math.MinInt, -1, len(want), len(want) + 1, math.MaxInt} {
			if got := p.Of(class, place); got != -1 {
				t.Errorf("Of(%s, %d) = %d", class, place, got)
			}
		}
	}
}

// P11.3: how things stand.
func TestShape(t *testing.T) {
	p, y := made(t, family(t, method(t, "m", "()V", 1, "retv"))...)
	for _, x := range []struct {
		d    string
		want link.Shape
	}{
		{"LA;", link.Shape{Kind: link.Thing, Size: 2, Refs: []int{0}}},
		{"LB;", link.Shape{Kind: link.Thing, Size: 3, Refs: []int{0, 2}}},
		{"LT;", link.Shape{Kind: link.Thing, Size: 5, Refs: []int{0, 2, 3}}},
		{"LE;", link.Shape{Kind: link.Thing}}, {"LObject;", link.Shape{Kind: link.Thing}}, {"LExc;", link.Shape{Kind: link.Thing}}, {"LLockExc;", link.Shape{Kind: link.Thing}},
		{"[I", link.Shape{Kind: link.Array}}, {"[B", link.Shape{Kind: link.Array}},
		{"[S", link.Shape{Kind: link.Array, All: true}}, {"[LA;", link.Shape{Kind: link.Array, All: true}}, {"[[I", link.Shape{Kind: link.Array, All: true}},
		{"[LObject;", link.Shape{Kind: link.Array, All: true}}, {"[[[[B", link.Shape{Kind: link.Array, All: true}}, {"[[[[LT;", link.Shape{Kind: link.Array, All: true}},
		{"S", link.Shape{Kind: link.Text}},
	} {
		// Types that were asked for behind New have shapes, too.
		for range 2 {
			got, ok := p.Shape(y.Id(x.d))
			if !ok || got.Kind != x.want.Kind || got.Size != x.want.Size || got.All != x.want.All || !slices.Equal(got.Refs, x.want.Refs) {
				t.Errorf("Shape of %s = %v, %v, want %v", x.d, got, ok, x.want)
			}
			for i := range got.Refs {
				got.Refs[i] = 99
			}
		}
	}
	for _, d := range []string{"I", "B", "N", "V", "", "LZ;", "[LZ;", "[[[[LZ;", "[[[[[I", "[V", "[N", "A", "L;", "LA", "()V", "?", "[", "LA;LA;"} {
		if got, ok := p.Shape(y.Id(d)); ok || !reflect.DeepEqual(got, link.Shape{}) {
			t.Errorf("Shape of %q = %v, %v", d, got, ok)
		}
	}
	for _, id := range []int{math.MinInt, -1, y.Len(), math.MaxInt} {
		if got, ok := p.Shape(id); ok || !reflect.DeepEqual(got, link.Shape{}) {
			t.Errorf("Shape(%d) = %v, %v", id, got, ok)
		}
	}
}

// P11.3: what can stand for what.
func TestSub(t *testing.T) {
	p, y := made(t, family(t, method(t, "m", "()V", 1, "retv"))...)
	for _, x := range []struct{ a, can, not string }{
		{"LT;", "LT; LB; LA; LObject;", "LE; LExc; [LT; S I N LZ;"},
		{"LB;", "LB; LA; LObject;", "LT; [LB;"},
		{"LE;", "LE; LDivExc; LExc; LObject;", "LMemExc; LA;"},
		{"N", "N LA; S [I LObject; [[LT;", "I B V LZ; [LZ;"},
		{"I", "I", "B S N LObject;"}, {"B", "B", "I"}, {"S", "S LObject;", "I N LA; [S"},
		{"[LB;", "[LB; LObject;", "[LA; [LObject; [I LB; N"},
		{"LZ;", "", "LZ; LObject;"}, {"V", "", "V LObject;"}, {"x", "", "x LObject;"},
	} {
		id := y.Id(x.a)
		for _, d := range strings.Fields(x.can) {
			if !p.Sub(id, d) {
				t.Errorf("%s can not stand for %s", x.a, d)
			}
		}
		for _, d := range append(strings.Fields(x.not), "", "?") {
			if p.Sub(id, d) {
				t.Errorf("%s can stand for %q", x.a, d)
			}
		}
	}
	many := y.Len()
	for _, id := range []int{math.MinInt, -1, many, math.MaxInt} {
		for _, d := range []string{"", "LObject;", "I", "new"} {
			if p.Sub(id, d) {
				t.Errorf("Sub(%d, %q)", id, d)
			}
		}
	}
	empty := y.Id("")
	if p.Sub(empty, "") || p.Sub(empty, "LObject;") || y.Len() != many+1 {
		t.Errorf("of the empty text; Len %d", y.Len())
	}
}

// Rule 4 of the document: what is written into an answer is seen by no later one.
func TestAnswersOfTheirOwn(t *testing.T) {
	m := method(t, "m", "(I[I)V", 4, "load 2, pop, load, pop, retv, throw", api.Hand{From: 0, To: 3, At: 5, Class: "Exc"}, api.Hand{From: 1, To: 3, At: 5, Class: "E"})
	l := family(t, m)
	x := tableOf(t, l...)
	p, e := link.New(x, link.NewTypes())
	if e != api.OK {
		t.Fatalf("New: error %d", e)
	}
	// What is held against it is of another program, that nobody writes into.
	q, _ := link.New(x, link.NewTypes())
	want, again := codeOf(t, q, 0), codeOf(t, p, 0)
	clear(again.Ops)
	clear(again.Hand)
	for i := range again.Low {
		clear(again.Low[i])
		clear(again.High[i])
		again.Low[i] = append(again.Low[i], 77)
		again.High[i] = append(again.High[i], 77)
	}
	if got := codeOf(t, p, 0); !reflect.DeepEqual(got, want) {
		t.Errorf("Code is %v behind what was written into it, want %v", got, want)
	}
	clear(again.Low)
	clear(again.High)
	if got := codeOf(t, p, 0); !reflect.DeepEqual(got, want) {
		t.Errorf("Code is %v behind what was written into it, want %v", got, want)
	}
	// Two lists of one answer share none, either.
	got := codeOf(t, p, 0)
	for i := range got.Low {
		got.Low[i] = append(got.Low[i], -7)
		got.High[i] = append(got.High[i], -8)
	}
	for i := range got.Low {
		if !slices.Equal(got.Low[i], append(slices.Clone(want.Low[i]), -7)) || !slices.Equal(got.High[i], append(slices.Clone(want.High[i]), -8)) {
			t.Errorf("at %d: Low %d, High %d", i, got.Low[i], got.High[i])
		}
	}
	// Rule 5: nor is what was handed in.
	clear(l[0].Methods[0].Code)
	clear(l[0].Methods[0].Hand)
	clear(l[0].Consts)
	if got := codeOf(t, p, 0); !reflect.DeepEqual(got, want) {
		t.Errorf("Code is %v behind what was written into the classes, want %v", got, want)
	}
}
