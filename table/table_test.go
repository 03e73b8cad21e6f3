package table_test

import (
	"math/rand/v2"
	"slices"
	"strconv"
	"strings"
	"testing"

	"hornbook/api"
	"hornbook/hier"
	"hornbook/klass"
	"hornbook/table"
)

// class has a name, one above it, and fields: each a name, a blank and a type.
func class(name, super string, fields ...string) api.Class {
	c := api.Class{Name: name, Super: super}
	for _, f := range fields {
		x, d, _ := strings.Cut(f, " ")
		c.Fields = append(c.Fields, api.Field{Name: x, Desc: d})
	}
	return c
}

// with answers a class that has methods, too: each a name and a Sig.
func with(c api.Class, methods ...string) api.Class {
	c.Methods = slices.Clone(c.Methods)
	for _, m := range methods {
		at := strings.Index(m, "(")
		c.Methods = append(c.Methods, api.Method{Name: m[:at], Sig: m[at:], Locals: 7, Code: []api.Ins{{Op: api.RetV}}})
	}
	return c
}

// many answers so many texts, numbered.
func many(n int, form string) []string {
	var l []string
	for i := range n {
		l = append(l, strings.Replace(form, "?", strconv.Itoa(i), 1))
	}
	return l
}

// family is more than one class below more than one, not in the order in which they stand above each other.
func family() []api.Class {
	c := with(class("C", "B", "z S", "w [[LD;"), "o()LA;", "m(I)V")
	c.Consts = []api.Const{
		{Kind: api.CMeth, S: "D", T: "m", U: "(LQ;[[LA;LD;)[LP;"}, {Kind: api.CInt, N: 7}, {Kind: api.CStr, S: "LY;"}, {Kind: api.CType, S: "[[LC;"},
		{Kind: api.CField, S: "A", T: "x", U: "LObject;"}, {Kind: api.CType, S: "LW;"}, {Kind: api.CType, S: "[I"}, {Kind: api.CMeth, S: "A", T: "n", U: "()V"},
	}
	c.Methods[0].Code = []api.Ins{{Op: api.Int, A: 1}, {Op: api.GetF, A: 4}, {Op: api.Arr, A: 6}, {Op: api.Call, A: 0}, {Op: api.GetF, A: 4}, {Op: api.Str, A: 2}, {Op: api.Load, A: 5}, {Op: api.Jump, A: 7}, {Op: api.Cast, A: 3}}
	c.Methods[0].Hand = []api.Hand{{From: 0, To: 1, Class: "Exc"}, {From: 0, To: 1, Class: "P"}, {From: 0, To: 2, Class: "R"}, {From: 0, To: 2, Class: "Exc"}}
	c.Methods[1].Code = []api.Ins{{Op: api.Load, A: 5}, {Op: api.Jump, A: 0}, {Op: api.Store, A: 3}, {Op: api.Call, A: 7}}
	return []api.Class{
		c,
		with(class("A", "Object", "x I", "me LA;"), "m(I)V", "run()V"),
		with(class("B", "A", "y LC;"), "n()I", "run()V"),
		with(class("D", "A"), "o(LE;)S"),
		with(class("E", "Exc", "x B")),
	}
}

// made answers a table that can be.
func made(t *testing.T, l ...api.Class) *table.Table {
	t.Helper()
	x, name, e := table.New(l...)
	if x == nil || name != "" || e != api.OK {
		t.Fatalf("New = %v, %q, error %d", x != nil, name, e)
	}
	return x
}

// refused holds that New tells a class and an error, and nothing else.
func refused(t *testing.T, name string, e api.Errno, l ...api.Class) {
	t.Helper()
	x, gotName, gotE := table.New(l...)
	if x != nil || gotName != name || gotE != e {
		t.Errorf("New(%.300v) = %v, %q, error %d, want %q, error %d", l, x != nil, gotName, gotE, name, e)
	}
}

// P8.2, by hand.
func TestTableOfTheFamily(t *testing.T) {
	x := made(t, family()...)
	if l := x.Layout("C"); !slices.Equal(l, []api.Field{{Name: "x", Desc: "I"}, {Name: "me", Desc: "LA;"}, {Name: "y", Desc: "LC;"}, {Name: "z", Desc: "S"}, {Name: "w", Desc: "[[LD;"}}) {
		t.Errorf("Layout(C) = %v", l)
	}
	if l := x.Layout("D"); !slices.Equal(l, []api.Field{{Name: "x", Desc: "I"}, {Name: "me", Desc: "LA;"}}) {
		t.Errorf("Layout(D) = %v", l)
	}
	if l := x.Methods("C"); !slices.Equal(l, []table.Entry{{Name: "m", Sig: "(I)V", Class: "C"}, {Name: "run", Sig: "()V", Class: "B"}, {Name: "n", Sig: "()I", Class: "B"}, {Name: "o", Sig: "()LA;", Class: "C"}}) {
		t.Errorf("Methods(C) = %v", l)
	}
	if l := x.Methods("D"); !slices.Equal(l, []table.Entry{{Name: "m", Sig: "(I)V", Class: "A"}, {Name: "run", Sig: "()V", Class: "A"}, {Name: "o", Sig: "(LE;)S", Class: "D"}}) {
		t.Errorf("Methods(D) = %v", l)
	}
	for _, f := range []struct {
		class, name, desc, owner string
		at                       int
	}{{"C", "x", "I", "A", 0}, {"C", "me", "LA;", "A", 1}, {"C", "y", "LC;", "B", 2}, {"C", "w", "[[LD;", "C", 4}, {"A", "y", "", "", -1}, {"E", "x", "B", "E", 0}, {"E", "me", "", "", -1}, {"C", "m", "", "", -1}, {"C", "", "", "", -1}, {"Exc", "x", "", "", -1}, {"Z", "x", "", "", -1}, {"", "", "", "", -1}} {
		got, owner, at := x.Field(f.class, f.name)
		want := api.Field{Name: f.name, Desc: f.desc}
		if f.at < 0 {
			want = api.Field{}
		}
		if got != want || owner != f.owner || at != f.at {
			t.Errorf("Field(%s, %s) = %v, %q, %d", f.class, f.name, got, owner, at)
		}
	}
	for _, m := range []struct {
		class, name string
		want        table.Entry
		at          int
	}{{"C", "m", table.Entry{Name: "m", Sig: "(I)V", Class: "C"}, 0}, {"B", "m", table.Entry{Name: "m", Sig: "(I)V", Class: "A"}, 0}, {"B", "run", table.Entry{Name: "run", Sig: "()V", Class: "B"}, 1}, {"C", "o", table.Entry{Name: "o", Sig: "()LA;", Class: "C"}, 3}, {"D", "o", table.Entry{Name: "o", Sig: "(LE;)S", Class: "D"}, 2},
		{"A", "n", table.Entry{}, -1}, {"E", "m", table.Entry{}, -1}, {"C", "x", table.Entry{}, -1}, {"Object", "m", table.Entry{}, -1}, {"Z", "m", table.Entry{}, -1}, {"", "", table.Entry{}, -1}} {
		if got, at := x.Method(m.class, m.name); got != m.want || at != m.at {
			t.Errorf("Method(%s, %s) = %v, %d", m.class, m.name, got, at)
		}
	}
	if m, ok := x.Code("C", "m"); !ok || m.Name != "m" || len(m.Code) != 4 || m.Code[1].Op != api.Jump {
		t.Errorf("Code(C, m) = %v, %v", m, ok)
	}
	if m, ok := x.Code("B", "m"); ok || m.Name != "" || m.Code != nil {
		t.Errorf("Code(B, m) = %v, %v: it is not B's own", m, ok)
	}
}

// P8.2: classes that are there always have nothing, and are none of those that were handed in.
func TestClassesThatAreThereAlways(t *testing.T) {
	for _, x := range []*table.Table{made(t), made(t, family()...)} {
		for _, name := range []string{"Object", "Exc", "NullExc", "CastExc", "IndexExc", "DivExc", "StackExc", "MemExc", "LockExc"} {
			c, ok := x.Class(name)
			if ok || !klass.Same(c, api.Class{}) || len(x.Layout(name)) != 0 || len(x.Methods(name)) != 0 || !x.Hier().Has(name) {
				t.Errorf("%s: Class %v, %v, Layout %v, Methods %v", name, c, ok, x.Layout(name), x.Methods(name))
			}
		}
	}
	if x := made(t); len(x.Classes()) != 0 || len(x.Hier().Names()) != 9 {
		t.Errorf("of none there are %v, %q", x.Classes(), x.Hier().Names())
	}
}

// P8.1, P8.2 and P8.5: in whatever order they are handed in.
func TestTableInAnyOrder(t *testing.T) {
	l := family()
	var each func(k int)
	each = func(k int) {
		if k == len(l) {
			if _, _, e := holdNew(t, l...); e != api.OK {
				t.Errorf("New = error %d", e)
			}
			return
		}
		for i := k; i < len(l); i++ {
			l[k], l[i] = l[i], l[k]
			each(k + 1)
			l[k], l[i] = l[i], l[k]
		}
	}
	each(0)
}

// P8.1: each error of a class among others, by hand, and the class that it is told with.
func TestNewTellsEachError(t *testing.T) {
	a := with(class("A", "Object", "x I"), "m(I)V")
	b := class("B", "A")
	refused(t, "Exc", api.ErrTwice, a, class("Exc", "Object"))
	refused(t, "C", api.ErrNone, a, class("C", "Z"))
	refused(t, "C", api.ErrLoop, a, class("C", "C"))
	refused(t, "", api.ErrSize, make([]api.Class, 33)...)
	refused(t, "C", api.ErrDesc, a, class("C", "Object", "x V"))
	refused(t, "C", api.ErrTwice, a, class("C", "Object", "x I", "x I"))
	refused(t, "9", api.ErrName, a, class("9", "A"))
	refused(t, "", api.ErrName, class("", "Object"))
	for _, d := range []string{"LZ;", "[LZ;", "[[[[LZ;", "La;"} {
		refused(t, "B", api.ErrDesc, a, class("B", "A", "y I", "z "+d))
		refused(t, "B", api.ErrDesc, a, with(b, "m(I)V", "n("+d+")V"))
		refused(t, "B", api.ErrDesc, a, with(b, "n(LA;"+d+"I)V"))
		refused(t, "B", api.ErrDesc, a, with(b, "n(I)"+d))
	}
	for _, d := range []string{"I", "B", "S", "LA;", "[LB;", "[[[[LObject;", "LMemExc;"} {
		made(t, a, with(class("B", "A", "y "+d), "n("+d+d+")"+d))
	}
	made(t, a, with(b, "n()V"))
	refused(t, "B", api.ErrTwice, a, class("B", "A", "y I", "x I"))
	refused(t, "C", api.ErrTwice, class("C", "B", "x S"), a, b)
	made(t, a, b, class("C", "Object", "x I"), class("D", "A", "X I", "m I"))
	for _, sig := range []string{"()V", "(I)I", "(B)V", "(II)V", "(LA;)V"} {
		refused(t, "B", api.ErrOver, a, with(b, "n()V", "m"+sig))
		refused(t, "C", api.ErrOver, a, b, with(class("C", "B"), "m"+sig))
		made(t, a, b, with(class("C", "Object"), "m"+sig), with(class("D", "A"), "M"+sig, "x"+sig))
	}
	made(t, a, with(b, "m(I)V"), with(class("C", "B"), "m(I)V"))
}

// P8.1: what stands first in the chapter, or of the classes' order, goes ahead.
func TestNewTellsTheFirstError(t *testing.T) {
	a := with(class("A", "Object", "x I"), "m(I)V")
	twice := class("T", "A", "x I")
	wrong := class("W", "A", "9 I")
	over := with(class("O", "A"), "m()V")
	// The hierarchy's, then the classes' own, then those among the others, each of all.
	refused(t, "L", api.ErrLoop, a, twice, wrong, class("L", "L"))
	refused(t, "W", api.ErrName, a, twice, over, wrong)
	refused(t, "T", api.ErrTwice, a, twice, over)
	refused(t, "O", api.ErrOver, a, over, twice)
	refused(t, "V", api.ErrDesc, a, twice, class("V", "A", "y V"), wrong)
	// Within one class: fields in order, methods in order.
	refused(t, "B", api.ErrDesc, a, class("B", "A", "x LZ;"))
	refused(t, "B", api.ErrDesc, a, class("B", "A", "y LZ;", "x I"))
	refused(t, "B", api.ErrTwice, a, class("B", "A", "x I", "y LZ;"))
	refused(t, "B", api.ErrDesc, a, with(class("B", "A"), "m(LZ;)V"))
	refused(t, "B", api.ErrDesc, a, with(class("B", "A"), "n()LZ;", "m()V"))
	refused(t, "B", api.ErrOver, a, with(class("B", "A"), "m()V", "n()LZ;"))
	refused(t, "B", api.ErrTwice, a, with(class("B", "A", "x I"), "m(LZ;)V"))
	// How many there are, behind each of them; fields ahead of methods.
	refused(t, "B", api.ErrDesc, a, class("B", "A", append(many(15, "f? I"), "y LZ;")...))
	refused(t, "B", api.ErrTwice, a, class("B", "A", append(many(15, "f? I"), "x I")...))
	refused(t, "B", api.ErrSize, a, with(class("B", "A", many(16, "f? I")...), "m(LZ;)V"))
	refused(t, "B", api.ErrDesc, a, with(class("B", "A"), append(many(31, "m?()V"), "y()LZ;")...))
	refused(t, "B", api.ErrOver, a, with(class("B", "A"), append(many(31, "m?()V"), "m()V")...))
}

// P8.1: a class above is asked by what it has, whether it can be or not.
func TestNewAsksAboveWhatCanNotBe(t *testing.T) {
	a := with(class("A", "Object", "x LZ;"), "m(LZ;)V")
	refused(t, "B", api.ErrTwice, class("B", "A", "x I"), a)
	refused(t, "B", api.ErrOver, with(class("B", "A"), "m()V"), a)
	refused(t, "A", api.ErrDesc, a, class("B", "A", "x I"))
	refused(t, "A", api.ErrDesc, class("B", "A", "y I"), a)
	// What B has is its own method, though that can not be there; A's is not asked.
	top := with(class("A", "Object"), "m(I)V")
	b := with(class("B", "A"), "m()V")
	refused(t, "C", api.ErrOver, with(class("C", "B"), "m(I)V"), b, top)
	refused(t, "B", api.ErrOver, with(class("C", "B"), "m()V"), b, top)
	// The class above has too many: so has the one below, that comes first.
	great := class("B", "A", many(15, "g? I")...)
	refused(t, "C", api.ErrSize, class("C", "B"), great, class("A", "Object", "x I", "y I"))
	refused(t, "B", api.ErrSize, great, class("C", "B"), class("A", "Object", "x I", "y I"))
	// A field that stands twice counts twice.
	refused(t, "C", api.ErrSize, class("C", "B"), class("B", "A", many(9, "f? I")...), class("A", "Object", many(8, "f? I")...))
}

// P8.1: how many a class has in all, at the limit and beyond it.
func TestNewOfHowMany(t *testing.T) {
	for own := range 17 {
		a := class("A", "Object", many(own, "a? I")...)
		x := made(t, a, class("B", "A", many(16-own, "b? I")...), class("C", "B"))
		if len(x.Layout("C")) != 16 {
			t.Errorf("C has %d fields", len(x.Layout("C")))
		}
		if own > 0 {
			refused(t, "B", api.ErrSize, a, class("B", "A", many(17-own, "b? I")...))
			refused(t, "C", api.ErrSize, a, class("B", "A", many(16-own, "b? I")...), class("C", "B", "c I"))
		}
	}
	for own := range 33 {
		a := with(class("A", "Object"), many(own, "a?()V")...)
		b := with(class("B", "A"), many(32-own, "b?()V")...)
		x := made(t, a, b, class("C", "B"))
		if len(x.Methods("C")) != 32 {
			t.Errorf("C has %d methods", len(x.Methods("C")))
		}
		// What stands in the place of another one is not counted again.
		made(t, a, b, with(class("C", "B"), append(many(own, "a?()V"), many(32-own, "b?()V")...)...))
		if own > 0 {
			refused(t, "B", api.ErrSize, a, with(class("B", "A"), many(33-own, "b?()V")...))
			refused(t, "C", api.ErrSize, a, b, with(class("C", "B"), "a0()V", "c()V"))
		}
	}
	var chain []api.Class
	for i := range 32 {
		c := with(class("c"+strconv.Itoa(i), "c"+strconv.Itoa(i+1)), "m"+strconv.Itoa(i)+"()V", "run()V")
		if i%2 == 0 {
			c.Fields = []api.Field{{Name: "f" + strconv.Itoa(i), Desc: "Lc0;"}}
		}
		chain = append(chain, c)
	}
	chain[31].Super = "Object"
	holdNew(t, chain...)
	chain[0].Methods = chain[0].Methods[:1]
	chain[31].Methods = chain[31].Methods[1:]
	if x, _, e := holdNew(t, chain...); e != api.OK || len(x.Methods("c0")) != 32 || len(x.Layout("c0")) != 16 || x.Methods("c0")[0] != (table.Entry{Name: "run", Sig: "()V", Class: "c1"}) {
		t.Errorf("of a chain of 32: error %d", e)
	}
	wrong := make([]api.Class, 32)
	for i := range wrong {
		wrong[i] = with(class("w"+strconv.Itoa(i), "w"+strconv.Itoa(i+1), many(16, "f? I")...), many(32, "m"+strconv.Itoa(i)+"_?()V")...)
	}
	wrong[31].Super = "Object"
	refused(t, "w0", api.ErrTwice, wrong...)
}

// P8.3, by hand: what the code uses by its places, then the handlers, each class once, whether it is there or not.
func TestDepsOfTheFamily(t *testing.T) {
	x := made(t, family()...)
	for _, w := range []struct{ class, name, want string }{
		{"C", "o", "D Q A P C Object Exc R"}, {"C", "m", "A"}, {"A", "m", ""}, {"B", "run", ""},
		{"C", "run", ""}, {"C", "n", ""}, {"B", "m", ""}, {"D", "m", ""}, {"C", "x", ""}, {"C", "", ""}, {"Z", "m", ""}, {"Object", "m", ""}, {"", "", ""},
	} {
		if got := strings.Join(x.Deps(w.class, w.name), " "); got != w.want {
			t.Errorf("Deps(%s, %s) = %q, want %q", w.class, w.name, got, w.want)
		}
	}
}

// P8.3: each instruction that has a constant, and none that has not.
func TestDepsOfEachInstruction(t *testing.T) {
	consts := []api.Const{{Kind: api.CInt}, {Kind: api.CStr, S: "LQ;"}, {Kind: api.CType, S: "LT;"}, {Kind: api.CField, S: "F", T: "Q", U: "[LU;"}, {Kind: api.CMeth, S: "M", T: "Q", U: "(LV;)LW;"}}
	for op := range api.Old {
		c := with(class("A", "Object"), "m()V")
		c.Consts = consts
		in, want := api.Ins{Op: op}, ""
		switch op {
		case api.Str:
			in.A = 1
		case api.New, api.Arr, api.Cast, api.Is:
			in.A, want = 2, "T"
		case api.GetF, api.PutF:
			in.A, want = 3, "F U"
		case api.Call:
			in.A, want = 4, "M V W"
		case api.Load, api.Store, api.Jump, api.JumpT, api.JumpF:
			in.A = 2
		}
		c.Methods[0].Code = []api.Ins{{Op: api.Nop}, in, {Op: api.RetV}}
		x, _, e := table.New(c)
		if got := strings.Join(x.Deps("A", "m"), " "); e != api.OK || got != want {
			t.Errorf("instruction %d: error %d, Deps %q, want %q", op, e, got, want)
		}
	}
}

// change is another family, and the classes that are Changed then.
type change struct {
	make func(l []api.Class)
	want string
}

// changes are each another one in one thing.
func changes() []change {
	return []change{
		{func(l []api.Class) {}, ""},
		{func(l []api.Class) { l[1].Fields[0].Name = "q" }, "C A B D"},
		{func(l []api.Class) { l[1].Fields[0].Desc = "B" }, "C A B D"},
		{func(l []api.Class) { l[1].Fields[0], l[1].Fields[1] = l[1].Fields[1], l[1].Fields[0] }, "C A B D"},
		{func(l []api.Class) { l[2].Fields = append(l[2].Fields, api.Field{Name: "q", Desc: "I"}) }, "C B"},
		{func(l []api.Class) { l[0].Fields = l[0].Fields[:1] }, "C"},
		{func(l []api.Class) { l[4].Fields = nil }, "E"},
		// A field that another one above brings, at its place.
		{func(l []api.Class) { l[1].Fields, l[2].Fields = append(l[1].Fields, l[2].Fields...), nil }, "A D"},
		{func(l []api.Class) { l[3].Methods[0].Name = "q" }, "D"},
		{func(l []api.Class) { l[3].Methods[0].Sig = "(LE;)B" }, "D"},
		{func(l []api.Class) { l[2].Methods[0].Sig = "()B" }, "C B"},
		{func(l []api.Class) { l[1].Methods[0], l[1].Methods[1] = l[1].Methods[1], l[1].Methods[0] }, "C A B D"},
		{func(l []api.Class) { l[1] = with(l[1], "q()V") }, "C A B D"},
		{func(l []api.Class) { l[4] = with(l[4], "q()V") }, "E"},
		{func(l []api.Class) { l[3].Methods = nil }, "D"},
		// A method that another class's is, at its place.
		{func(l []api.Class) { l[2].Methods = l[2].Methods[:1] }, ""},
		{func(l []api.Class) { l[3] = with(l[3], "m(I)V", "run()V") }, ""},
		{func(l []api.Class) { l[0].Methods[0], l[0].Methods[1] = l[0].Methods[1], l[0].Methods[0] }, ""},
		// Other code, and what is none of both.
		{func(l []api.Class) { l[1].Methods[0].Code = []api.Ins{{Op: api.Nop}, {Op: api.RetV}} }, ""},
		{func(l []api.Class) { l[1].Methods[0].Locals = 3 }, ""},
		{func(l []api.Class) { l[0].Methods[0].Hand = nil }, ""},
		{func(l []api.Class) { l[1].Consts = []api.Const{{Kind: api.CInt}} }, ""},
		{func(l []api.Class) { l[4].Super = "Object" }, ""},
		{func(l []api.Class) { l[3].Super = "Object" }, "D"},
		// A class that one has alone.
		{func(l []api.Class) { l[4].Name, l[3].Methods = "F", nil }, "D"},
	}
}

// P8.4 and P8.6, by hand: in the order of the table that is asked.
func TestChangedOfTheFamily(t *testing.T) {
	x := made(t, family()...)
	for i, ch := range changes() {
		l := family()
		ch.make(l)
		y := made(t, l...)
		if got := strings.Join(x.Changed(y), " "); got != ch.want {
			t.Errorf("change %d: %q are Changed, want %q", i, got, ch.want)
		}
		if got := strings.Join(y.Changed(x), " "); got != ch.want {
			t.Errorf("change %d, the other way round: %q are Changed, want %q", i, got, ch.want)
		}
		slices.Reverse(l)
		back := strings.Fields(ch.want)
		slices.Reverse(back)
		if got := made(t, l...).Changed(x); !slices.Equal(got, back) {
			t.Errorf("change %d, in another order: %q are Changed, want %q", i, got, back)
		}
		if len(y.Changed(y)) != 0 || len(y.Changed(made(t))) != 0 || len(made(t).Changed(y)) != 0 {
			t.Errorf("change %d: a class is Changed that is not another one, or none", i)
		}
	}
}

// P8.2 to P8.4: of nil none, -1, false.
func TestOfNil(t *testing.T) {
	var x *table.Table
	full := made(t, family()...)
	if x.Hier() != nil || x.Hier().Has("Object") || len(x.Classes()) != 0 || len(x.Changed(full)) != 0 || len(full.Changed(x)) != 0 || len(x.Changed(nil)) != 0 {
		t.Error("nil has classes")
	}
	for _, class := range []string{"", "A", "C", "Object"} {
		if c, ok := x.Class(class); ok || !klass.Same(c, api.Class{}) || len(x.Layout(class)) != 0 || len(x.Methods(class)) != 0 {
			t.Errorf("nil has %q", class)
		}
		for _, name := range []string{"", "x", "m", "o"} {
			f, owner, at := x.Field(class, name)
			if f != (api.Field{}) || owner != "" || at != -1 {
				t.Errorf("Field = %v, %q, %d", f, owner, at)
			}
			if e, at := x.Method(class, name); e != (table.Entry{}) || at != -1 {
				t.Errorf("Method = %v, %d", e, at)
			}
			if m, ok := x.Code(class, name); ok || m.Name != "" || m.Code != nil || len(x.Deps(class, name)) != 0 {
				t.Errorf("Code = %v, %v, Deps %q", m, ok, x.Deps(class, name))
			}
		}
	}
}

// The table's way with the hierarchy: its methods are the table's own.
func TestTheHierarchyIsTheTables(t *testing.T) {
	x := made(t, family()...)
	h, _, _ := hier.New(family()...)
	if !slices.Equal(x.Names(), h.Names()) || !slices.Equal(x.Chain("C"), h.Chain("C")) || !x.Sub("LC;", "LA;") || x.Sub("LC;", "LD;") || x.Known("LZ;") || !x.Known("[LE;") {
		t.Errorf("Names %q, Chain %q", x.Names(), x.Chain("C"))
	}
}

// spoil writes into all lists of classes, and behind their ends.
func spoil(l []api.Class) {
	for i := range l {
		c := &l[i]
		for k := range c.Methods {
			m := &c.Methods[k]
			for j := range m.Code {
				m.Code[j] = api.Ins{Op: 99, A: 99}
			}
			for j := range m.Hand {
				m.Hand[j] = api.Hand{Class: "spoilt"}
			}
			_, _ = append(m.Code, api.Ins{Op: 98}), append(m.Hand, api.Hand{From: 98})
			*m = api.Method{Name: "spoilt"}
		}
		for k := range c.Fields {
			c.Fields[k] = api.Field{Name: "spoilt"}
		}
		for k := range c.Consts {
			c.Consts[k] = api.Const{Kind: 99}
		}
		_, _, _ = append(c.Consts, api.Const{Kind: 98}), append(c.Fields, api.Field{Name: "behind"}), append(c.Methods, api.Method{Name: "behind"})
		*c = api.Class{Name: "spoilt"}
	}
	_ = append(l, api.Class{Name: "behind"})
}

// spoilTexts writes into a list, and behind its end.
func spoilTexts(l []string) {
	_ = append(l, "behind")
	for i := range l {
		l[i] = "spoilt"
	}
}

// Rules 4 and 5 of the document.
func TestAnswersShareNoMemory(t *testing.T) {
	l := family()
	x := made(t, l...)
	m, _, _ := modelOf(family())
	if !slices.EqualFunc(l, family(), klass.Same) {
		t.Error("New changed what was handed in")
	}
	spoil(l)
	holdTable(t, x, m)
	other := family()
	other[1].Fields[0].Name = "q"
	y := made(t, other...)
	for _, name := range []string{"A", "B", "C", "D", "E"} {
		c, _ := x.Class(name)
		spoil([]api.Class{c})
		fields, methods := x.Layout(name), x.Methods(name)
		_, _ = append(fields, api.Field{Name: "behind"}), append(methods, table.Entry{Name: "behind"})
		for i := range fields {
			fields[i] = api.Field{Name: "spoilt"}
		}
		for i := range methods {
			methods[i] = table.Entry{Name: "spoilt"}
		}
		for _, e := range x.Methods(name) {
			own, _ := x.Code(name, e.Name)
			spoil([]api.Class{{Methods: []api.Method{own}}})
			spoilTexts(x.Deps(name, e.Name))
		}
		spoilTexts(x.Changed(y))
		spoilTexts(x.Hier().Names())
	}
	spoil(x.Classes())
	holdTable(t, x, m)
	if got := x.Changed(y); !slices.Equal(got, []string{"C", "A", "B", "D"}) {
		t.Errorf("%q are Changed", got)
	}
}

// The lists of one answer share none either, though those that were handed in do.
func TestListsOfOneAnswerShareNoMemory(t *testing.T) {
	code := make([]api.Ins, 4, 8)
	a := with(class("A", "Object"), "m()V", "n()V")
	a.Methods[0].Code, a.Methods[1].Code = code[:2], code[:3]
	l := made(t, a).Classes()
	l[0].Methods[0].Code[0].Op = api.Dup
	_ = append(l[0].Methods[0].Code, api.Ins{Op: api.Dup})
	if l[0].Methods[1].Code[0].Op != api.Nop || l[0].Methods[1].Code[2].Op != api.Nop || code[0].Op != api.Nop {
		t.Error("two codes are one")
	}
}

// pick answers one of many.
func pick[T any](r *rand.Rand, l ...T) T {
	return l[r.IntN(len(l))]
}

// anyClass answers a class of any kind, mostly one that can be.
func anyClass(r *rand.Rand, name string) api.Class {
	c := class(name, pick(r, "Object", "Object", "A", "A", "B", "C", "D", "Exc", "DivExc"))
	if r.IntN(40) == 0 {
		c.Super = "Z"
	}
	types := []string{"I", "B", "S", "LA;", "LB;", "[LC;", "[[I", "LObject;", "[LMemExc;"}
	if r.IntN(6) == 0 {
		types = append(types, "LZ;", "[LZ;", "V")
	}
	for _, x := range "stuvwxyz" {
		if r.IntN(8) == 0 {
			c.Fields = append(c.Fields, api.Field{Name: string(x) + pick(r, "", name), Desc: pick(r, types...)})
		}
	}
	c.Consts = []api.Const{{Kind: api.CInt, N: 3}, {Kind: api.CType, S: pick(r, types[:9]...)}, {Kind: api.CType, S: "[[[LQ;"}, {Kind: api.CField, S: pick(r, "A", "B"), T: "x", U: pick(r, types[:9]...)}, {Kind: api.CMeth, S: pick(r, "C", "D"), T: "m", U: "(LB;LA;)" + pick(r, types[:9]...)}}
	for _, x := range "mnopq" {
		if r.IntN(3) > 0 {
			continue
		}
		m := api.Method{Name: string(x) + pick(r, "", "", name), Sig: pick(r, "()V", "()V", "()V", "()V", "(I)V"), Locals: 7}
		if r.IntN(3) == 0 {
			m.Name, m.Sig = string(x)+name, "("+pick(r, types...)+pick(r, types...)+")"+pick(r, types...)
		}
		for range r.IntN(4) {
			m.Code = append(m.Code, pick(r, api.Ins{Op: api.Int}, api.Ins{Op: api.Is, A: 1}, api.Ins{Op: api.Cast, A: 2}, api.Ins{Op: api.PutF, A: 3}, api.Ins{Op: api.Call, A: 4}, api.Ins{Op: api.Store, A: 3}))
		}
		m.Code = append(m.Code, api.Ins{Op: api.RetV})
		for range r.IntN(3) {
			m.Hand = append(m.Hand, api.Hand{From: 0, To: 1, Class: pick(r, "Exc", "A", "B", "P")})
		}
		c.Methods = append(c.Methods, m)
	}
	return c
}

// P8.1 to P8.6: many lists of classes, each held against the words of the chapter.
func TestTablesOfManyClasses(t *testing.T) {
	r := rand.New(rand.NewPCG(4, 8))
	met := map[api.Errno]int{}
	changed := 0
	var last *table.Table
	var lastModel model
	for range 6000 {
		var l []api.Class
		for _, name := range "ABCDE" {
			l = append(l, anyClass(r, string(name)))
		}
		r.Shuffle(len(l), func(i, k int) { l[i], l[k] = l[k], l[i] })
		x, m, e := holdNew(t, l...)
		met[e]++
		if e != api.OK || t.Failed() {
			continue
		}
		if last != nil {
			want := m.changed(lastModel)
			if got := x.Changed(last); !slices.Equal(got, want) {
				t.Errorf("%q are Changed, want %q", got, want)
			}
			changed += len(want)
		}
		if l := x.Changed(x); len(l) != 0 {
			t.Errorf("%q are others than themselves", l)
		}
		last, lastModel = x, m
	}
	for _, e := range []api.Errno{api.OK, api.ErrNone, api.ErrLoop, api.ErrDesc, api.ErrTwice, api.ErrOver} {
		if met[e] < 50 {
			t.Errorf("error %d was met %d times only", e, met[e])
		}
	}
	if changed < 500 {
		t.Errorf("only %d classes were Changed", changed)
	}
}

// P8.1 to P8.3: no numbers make a call panic, or hold otherwise than the words say.
func FuzzNew(f *testing.F) {
	for i := range uint64(8) {
		f.Add(i, uint8(i), "x", "LA;")
	}
	f.Fuzz(func(t *testing.T, seed uint64, n uint8, name, desc string) {
		r := rand.New(rand.NewPCG(seed, 0))
		var l []api.Class
		for i := range n % 8 {
			l = append(l, anyClass(r, string(rune('A'+i))))
		}
		for i := range l {
			if r.IntN(8) == 0 {
				l[i].Fields = append(l[i].Fields, api.Field{Name: name, Desc: desc})
				l[i].Methods = append(l[i].Methods, api.Method{Name: name, Sig: "(" + desc + ")V", Locals: 2, Code: []api.Ins{{Op: api.RetV}}})
			}
		}
		holdNew(t, l...)
	})
}
