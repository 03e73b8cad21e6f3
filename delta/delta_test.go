package delta_test

import (
	"reflect"
	"slices"
	"testing"

	"hornbook/api"
	"hornbook/asm"
	"hornbook/delta"
	"hornbook/table"
)

// classesOf answers the classes that were written.
func classesOf(t testing.TB, l ...*asm.Class) []api.Class {
	t.Helper()
	classes, wrong := asm.Classes(l...)
	if wrong != "" {
		t.Fatalf("what is %s?", wrong)
	}
	return classes
}

// tableOf answers a table of classes.
func tableOf(t testing.TB, l ...api.Class) *table.Table {
	t.Helper()
	x, name, e := table.New(l...)
	if x == nil || e != api.OK {
		t.Fatalf("table.New = %q, error %d", name, e)
	}
	return x
}

// written answers a table of classes that were written.
func written(t testing.TB, l ...*asm.Class) *table.Table {
	t.Helper()
	return tableOf(t, classesOf(t, l...)...)
}

// class answers one with fields.
func class(name, super string, fields ...string) api.Class {
	return asm.New(name, super, fields...).Class
}

// names answers those of classes.
func names(l []api.Class) []string {
	var out []string
	for _, c := range l {
		out = append(out, c.Name)
	}
	return out
}

// key answers a method's.
func key(class, name string) delta.Key {
	return delta.Key{Class: class, Name: name}
}

// held holds what Held answers.
func held(t *testing.T, old, now *table.Table, want ...delta.Key) {
	t.Helper()
	if got := delta.Held(old, now); !slices.Equal(got, want) {
		t.Errorf("Held = %v, want %v", got, want)
	}
}

// layouts holds what Layouts answers.
func layouts(t *testing.T, old, now *table.Table, want ...string) {
	t.Helper()
	if got := delta.Layouts(old, now); !slices.Equal(got, want) {
		t.Errorf("Layouts = %q, want %q", got, want)
	}
}

// merges holds what Merge answers, each class as of one of two lists.
func merges(t *testing.T, x *table.Table, b api.Bundle, want ...api.Class) {
	t.Helper()
	l, name, e := delta.Merge(x, b)
	if name != "" || e != api.OK || len(l) != len(want) || len(l) > 0 && !reflect.DeepEqual(l, want) {
		t.Errorf("Merge(%v) = %v, %q, error %d, want %v", b, l, name, e, want)
	}
}

// refused holds that Merge tells a class and an error, and nothing else.
func refused(t *testing.T, x *table.Table, name string, e api.Errno, l ...api.Class) {
	t.Helper()
	if got, gotName, gotE := delta.Merge(x, api.Bundle{Classes: l}); got != nil || gotName != name || gotE != e {
		t.Errorf("Merge(%v) = %v, %q, error %d, want %q, error %d", l, got, gotName, gotE, name, e)
	}
}

// The chapter's example.
func TestExample(t *testing.T) {
	read := func(fields ...string) *table.Table {
		return written(t, asm.New("A", "Object", fields...).Method("m", "()I", 1, "load, getf A.x:I, ret"))
	}
	held(t, read("x I"), read("x I", "y I"), key("A", "m"))
	layouts(t, read("x I"), read("x I", "y I"), "A")
}

// P20.1, P20.3: of nil, and of a table that table.New did not make.
func TestNil(t *testing.T) {
	x := written(t, asm.New("A", "Object", "x I").Method("m", "()V", 1, "retv"))
	refused(t, nil, "", api.ErrNil)
	refused(t, nil, "", api.ErrNil, class("A", "B"))
	for _, l := range [][2]*table.Table{{nil, nil}, {x, nil}, {nil, x}, {nil, {}}, {{}, nil}, {{}, {}}, {{}, x}} {
		held(t, l[0], l[1])
		layouts(t, l[0], l[1])
	}
	merges(t, &table.Table{}, api.Bundle{})
	merges(t, &table.Table{}, api.Bundle{Classes: []api.Class{class("A", "B")}}, class("A", "B"))
	held(t, x, &table.Table{}, key("A", "m"))
	layouts(t, x, &table.Table{})
}

// family answers some classes.
func family() []api.Class {
	return []api.Class{class("C", "B", "z S"), class("A", "Object", "x I"), class("B", "A", "y LC;"), class("D", "Exc")}
}

// P20.1: each in its place, and behind all those that the table does not have.
func TestMerge(t *testing.T) {
	l := family()
	x := tableOf(t, l...)
	bundle := func(l ...api.Class) api.Bundle { return api.Bundle{Classes: l} }
	a, b, e, f := class("A", "Object", "other B"), class("B", "A"), class("E", "F", "e I"), class("F", "Object")
	merges(t, x, bundle(), l...)
	merges(t, x, bundle(a), l[0], a, l[2], l[3])
	merges(t, x, bundle(b, a), l[0], a, b, l[3])
	merges(t, x, bundle(e), append(slices.Clone(l), e)...)
	merges(t, x, bundle(f, b, e, a), l[0], a, b, l[3], f, e)
	merges(t, x, bundle(e, f), append(slices.Clone(l), e, f)...)
	merges(t, x, bundle(l...), l...)
	merges(t, x, bundle(l[3], l[2], l[1], l[0]), l...)
	merges(t, tableOf(t), bundle(e, f), e, f)
	merges(t, tableOf(t), bundle())
	// The class above may be one that there is not, and names any: what can be is not asked here.
	odd := []api.Class{class("", ""), class("E", "None"), class("none of these", "LA;")}
	merges(t, x, bundle(odd...), append(slices.Clone(l), odd...)...)
	// How things come to be others plays no part.
	merges(t, x, api.Bundle{Turns: []api.Turn{{Class: "A"}, {Class: "Z"}}}, l...)
}

// P20.1: the bundle's class is as it is there, with all that it has.
func TestMergeWhole(t *testing.T) {
	c := func(n string) api.Class {
		return classesOf(t, asm.New("A", "Object", "x I").Method("m", "()I", 2, "@a int "+n+", ret, @b pop, int 9, ret", "@a @b @b Exc"))[0]
	}
	x := tableOf(t, c("1"), class("B", "Object"))
	merges(t, x, api.Bundle{Classes: []api.Class{c("2")}}, c("2"), class("B", "Object"))
	merges(t, x, api.Bundle{Classes: []api.Class{class("A", "Object")}}, class("A", "Object"), class("B", "Object"))
	merges(t, x, api.Bundle{Classes: []api.Class{class("B", "Object")}}, c("1"), class("B", "Object"))
}

// P20.1: the first class of the bundle that stands below another one than in the table.
func TestMergeSuper(t *testing.T) {
	x := tableOf(t, family()...)
	c, a, b, e := class("C", "A"), class("A", "D"), class("B", "A"), class("E", "None")
	refused(t, x, "C", api.ErrSuper, c)
	refused(t, x, "C", api.ErrSuper, c, a)
	refused(t, x, "A", api.ErrSuper, a, c)
	refused(t, x, "A", api.ErrSuper, b, e, a, c)
	refused(t, x, "B", api.ErrSuper, e, class("B", ""), a)
	refused(t, x, "A", api.ErrSuper, class("A", "object"))
	refused(t, x, "A", api.ErrSuper, class("A", "A"))
}

// P20.1: those that are there always are none of the table's classes; so they stand behind, and are refused when a table is made.
func TestMergeOfClassesThatAreThereAlways(t *testing.T) {
	l := family()
	for _, c := range []api.Class{class("Exc", "Object"), class("DivExc", "Object"), class("Object", "A")} {
		merges(t, tableOf(t, l...), api.Bundle{Classes: []api.Class{c}}, append(slices.Clone(l), c)...)
	}
}

// P20.1: of a bundle that can not be, with a name twice, the first one takes the place; what the table does not have stands behind.
func TestMergeTwice(t *testing.T) {
	l := family()
	x := tableOf(t, l...)
	a, b, e, f := class("A", "Object", "one I"), class("A", "Object", "two I"), class("E", "A", "one I"), class("E", "B", "two I")
	merges(t, x, api.Bundle{Classes: []api.Class{a, b}}, l[0], a, l[2], l[3])
	merges(t, x, api.Bundle{Classes: []api.Class{f, b, e, a}}, l[0], b, l[2], l[3], f, e)
	refused(t, x, "A", api.ErrSuper, a, class("A", "E"))
}

// Rules 4 and 5 of the document: what is merged is in memory of its own, and no bundle is changed.
func TestMergeOfItsOwn(t *testing.T) {
	make3 := func() []api.Class {
		return classesOf(t,
			asm.New("A", "Object", "x I").Method("m", "()I", 1, "@a int 1, ret, @b pop, int 9, ret", "@a @b @b Exc"),
			asm.New("B", "Object", "x I").Method("m", "()I", 1, "@a int 2, ret, @b pop, int 9, ret", "@a @b @b Exc"),
			asm.New("C", "Object", "x I").Method("m", "()I", 1, "@a int 3, ret, @b pop, int 9, ret", "@a @b @b Exc"))
	}
	l := make3()
	x := tableOf(t, l[0], l[1])
	b := api.Bundle{Classes: []api.Class{l[1], l[2]}}
	spoil := func(l []api.Class) {
		for _, c := range l {
			c.Consts[0].N, c.Fields[0].Name, c.Methods[0].Code[0].A, c.Methods[0].Hand[0].To = 7, "y", 1, 7
			c.Methods[0].Name = "n"
		}
	}
	got, _, _ := delta.Merge(x, b)
	spoil(got)
	if !reflect.DeepEqual(l, make3()) {
		t.Errorf("the bundle is %v", l)
	}
	merges(t, x, b, make3()...)
	got, _, _ = delta.Merge(x, b)
	spoil(l)
	if !reflect.DeepEqual(got, make3()) {
		t.Errorf("what was merged is %v", got)
	}
}

// speaks answers a class with a method of which all else is varied.
func speaks(vary func(c *api.Class, m *api.Method)) api.Class {
	c := api.Class{Name: "A", Super: "Object", Consts: []api.Const{
		{Kind: api.CInt, N: 5}, {Kind: api.CStr, S: "s"}, {Kind: api.CType, S: "LA;"}, {Kind: api.CField, S: "A", T: "x", U: "I"}, {Kind: api.CMeth, S: "A", T: "m", U: "()V"},
	}}
	m := api.Method{Name: "m", Sig: "(I)V", Locals: 4, Code: []api.Ins{
		{Op: api.Int, A: 0}, {Op: api.Str, A: 1}, {Op: api.New, A: 2}, {Op: api.GetF, A: 3}, {Op: api.Call, A: 4}, {Op: api.Load, A: 1}, {Op: api.Jump, A: 3}, {Op: api.Old, A: 3}, {Op: api.RetV},
	}, Hand: []api.Hand{{From: 0, To: 2, At: 3, Class: "Exc"}, {From: 1, To: 3, At: 4, Class: "DivExc"}}}
	vary(&c, &m)
	c.Methods = []api.Method{{Name: "other", Sig: "()I"}, m}
	return c
}

// P20.2: all that makes two methods do something else.
func TestNotSame(t *testing.T) {
	plain := speaks(func(*api.Class, *api.Method) {})
	for at, vary := range []func(c *api.Class, m *api.Method){
		func(c *api.Class, m *api.Method) { m.Sig = "(B)V" },
		func(c *api.Class, m *api.Method) { m.Locals = 3 },
		func(c *api.Class, m *api.Method) { m.Code = m.Code[:8] },
		func(c *api.Class, m *api.Method) { m.Code = append(m.Code, api.Ins{}) },
		func(c *api.Class, m *api.Method) { m.Code = nil },
		func(c *api.Class, m *api.Method) { m.Code[0], m.Code[1] = m.Code[1], m.Code[0] },
		func(c *api.Class, m *api.Method) { m.Code[8].Op = api.Ret },
		func(c *api.Class, m *api.Method) { m.Code[8].A = 1 },
		func(c *api.Class, m *api.Method) { m.Code[2].Op = api.Cast },
		func(c *api.Class, m *api.Method) { m.Code[7].Op = api.GetF },
		func(c *api.Class, m *api.Method) { m.Code[5].Op = api.Store },
		func(c *api.Class, m *api.Method) { m.Code[5].A = 2 },
		func(c *api.Class, m *api.Method) { m.Code[6].A = 4 },
		func(c *api.Class, m *api.Method) { m.Hand = m.Hand[:1] },
		func(c *api.Class, m *api.Method) { m.Hand = nil },
		func(c *api.Class, m *api.Method) { m.Hand = append(m.Hand, m.Hand[0]) },
		func(c *api.Class, m *api.Method) { m.Hand[0], m.Hand[1] = m.Hand[1], m.Hand[0] },
		func(c *api.Class, m *api.Method) { m.Hand[0].From = 1 },
		func(c *api.Class, m *api.Method) { m.Hand[0].To = 3 },
		func(c *api.Class, m *api.Method) { m.Hand[0].At = 4 },
		func(c *api.Class, m *api.Method) { m.Hand[1].Class = "Exc" },
		func(c *api.Class, m *api.Method) { c.Consts[0].N = 6 },
		func(c *api.Class, m *api.Method) { c.Consts[0].Kind = api.CStr },
		func(c *api.Class, m *api.Method) { c.Consts[1].S = "S" },
		func(c *api.Class, m *api.Method) { c.Consts[2].S = "LB;" },
		func(c *api.Class, m *api.Method) { c.Consts[3].S = "B" },
		func(c *api.Class, m *api.Method) { c.Consts[3].T = "y" },
		func(c *api.Class, m *api.Method) { c.Consts[3].U = "B" },
		func(c *api.Class, m *api.Method) { c.Consts[4].T = "n" },
		func(c *api.Class, m *api.Method) { c.Consts[4].U = "()I" },
		func(c *api.Class, m *api.Method) { m.Code[0].A = 1 },
		func(c *api.Class, m *api.Method) { m.Name = "n" },
		func(c *api.Class, m *api.Method) { c.Consts = c.Consts[:4] },
		func(c *api.Class, m *api.Method) { m.Code[0].A = -1 },
		func(c *api.Class, m *api.Method) { m.Code[0].A = 5 },
		func(c *api.Class, m *api.Method) { c.Consts = nil },
		func(c *api.Class, m *api.Method) { m.Code[3].Op = api.Ops },
		func(c *api.Class, m *api.Method) { m.Code[3].Op = -1 },
	} {
		x := speaks(vary)
		if delta.Same(plain, "m", x, "m") || delta.Same(x, "m", plain, "m") {
			t.Errorf("%d: they do the same", at)
		}
	}
	if !delta.Same(plain, "m", speaks(func(*api.Class, *api.Method) {}), "m") {
		t.Error("one does not the same as itself")
	}
}

// P20.2: what plays no part.
func TestSame(t *testing.T) {
	plain := speaks(func(*api.Class, *api.Method) {})
	for at, vary := range []func(c *api.Class, m *api.Method){
		func(c *api.Class, m *api.Method) { c.Name, c.Super = "B", "" },
		func(c *api.Class, m *api.Method) { c.Fields = []api.Field{{Name: "x", Desc: "I"}} },
		func(c *api.Class, m *api.Method) {
			c.Consts = append(c.Consts, api.Const{Kind: api.CInt, N: 9}, api.Const{})
		},
		// The same constants at other places.
		func(c *api.Class, m *api.Method) {
			slices.Reverse(c.Consts)
			for i := range 5 {
				m.Code[i].A = 4 - i
			}
			m.Code[7].A = 1
		},
		func(c *api.Class, m *api.Method) {
			c.Consts = append([]api.Const{{Kind: api.CInt, N: 9}}, c.Consts...)
			for _, i := range []int{0, 1, 2, 3, 4, 7} {
				m.Code[i].A++
			}
		},
		// The same constant twice.
		func(c *api.Class, m *api.Method) {
			c.Consts = append(c.Consts, c.Consts[3])
			m.Code[7].A = 5
		},
	} {
		x := speaks(vary)
		if !delta.Same(plain, "m", x, "m") || !delta.Same(x, "m", plain, "m") {
			t.Errorf("%d: they do not the same", at)
		}
	}
	named := speaks(func(c *api.Class, m *api.Method) { m.Name = "n" })
	if !delta.Same(plain, "m", named, "n") || !delta.Same(named, "n", plain, "m") || delta.Same(plain, "n", named, "m") {
		t.Error("the methods' names play a part")
	}
}

// P20.2: of methods that there are not; and constants that are not there are none, even if both have none.
func TestSameOfNone(t *testing.T) {
	c := speaks(func(*api.Class, *api.Method) {})
	for _, n := range []string{"", "M", "Object", "x"} {
		if delta.Same(c, n, c, n) || delta.Same(c, "m", c, n) || delta.Same(c, n, c, "m") || delta.Same(api.Class{}, n, api.Class{}, n) {
			t.Errorf("there is a method %q", n)
		}
	}
	if delta.Same(api.Class{}, "m", c, "m") || delta.Same(c, "m", api.Class{}, "m") {
		t.Error("a class without methods has one")
	}
	if !delta.Same(c, "other", c, "other") || delta.Same(c, "other", c, "m") {
		t.Error("a method without code does not the same as itself, or another one")
	}
	for _, a := range []int{-1, 5, 1 << 40, -1 << 63} {
		x := speaks(func(c *api.Class, m *api.Method) { m.Code[2].A = a })
		if delta.Same(x, "m", x, "m") {
			t.Errorf("the constant %d is there", a)
		}
	}
	// What has no constant where it should is nothing else, either.
	gone := speaks(func(c *api.Class, m *api.Method) { m.Code[2] = api.Ins{Op: api.New, A: 5} })
	nop := speaks(func(c *api.Class, m *api.Method) { m.Code[2] = api.Ins{Op: api.Nop} })
	if delta.Same(gone, "m", nop, "m") || delta.Same(nop, "m", gone, "m") {
		t.Error("what has no constant does nothing")
	}
	// Without a constant any A is the same as itself.
	for _, i := range []api.Ins{{Op: api.Load, A: -9}, {Op: api.Jump, A: 99}, {Op: api.Ops, A: -1}, {Op: -1, A: 7}, {Op: api.Nop, A: 3}} {
		x := speaks(func(c *api.Class, m *api.Method) { m.Code[2] = i })
		if !delta.Same(x, "m", x, "m") {
			t.Errorf("%v is not the same as itself", i)
		}
	}
	// A constant of another kind than the instruction's is one, too.
	x := speaks(func(c *api.Class, m *api.Method) { m.Code[2].A = 0 })
	if !delta.Same(x, "m", x, "m") || delta.Same(x, "m", c, "m") {
		t.Error("a constant of another kind is none")
	}
}

// P20.3: methods that are gone, or do something else.
func TestHeldOthers(t *testing.T) {
	a := func() *asm.Class { return asm.New("A", "Object", "x I").Method("one", "()I", 1, "int 1, ret") }
	old := written(t, asm.New("B", "A").Method("one", "()I", 1, "int 2, ret").Method("two", "(I)V", 3, "retv"), a().Method("two", "(I)V", 3, "retv"))
	held(t, old, old)
	held(t, old, written(t, a().Method("two", "(I)V", 3, "retv")), key("B", "one"), key("B", "two"))
	// Of B it is no own one any more.
	held(t, old, written(t, a().Method("two", "(I)V", 3, "retv"), asm.New("B", "A").Method("one", "()I", 1, "int 2, ret")), key("B", "two"))
	// Its Sig or its Locals are others.
	held(t, old, written(t, a().Method("two", "(I)V", 2, "retv"), asm.New("B", "A").Method("two", "(I)V", 4, "retv").Method("one", "()I", 1, "int 2, ret")), key("B", "two"), key("A", "two"))
	held(t, old, written(t, a().Method("two", "(B)V", 3, "retv"), asm.New("B", "A").Method("two", "(B)V", 3, "retv").Method("one", "()I", 1, "int 3, ret")), key("B", "one"), key("B", "two"), key("A", "two"))
	// Other constants that are not used, methods in another order, classes and methods that are new.
	c := a()
	c.Consts = append([]api.Const{{Kind: api.CInt, N: 7}}, c.Consts...)
	c.Methods[0].Code[0].A = 1
	now := written(t, asm.New("C", "B"), c.Method("two", "(I)V", 3, "retv"), asm.New("B", "A").Method("new", "()V", 1, "retv").Method("two", "(I)V", 3, "retv").Method("one", "()I", 1, "int 2, ret"))
	held(t, old, now)
	held(t, now, old, key("B", "new"))
	held(t, written(t), now)
	held(t, now, written(t), key("A", "one"), key("A", "two"), key("B", "new"), key("B", "two"), key("B", "one"))
}

// P20.3: methods that speak of a class that has something else, in all ways in which they can.
func TestHeldSpeaks(t *testing.T) {
	speak := func() *asm.Class {
		return asm.New("S", "Object").
			Method("new", "()V", 1, "new LA;, pop, retv").
			Method("below", "()V", 1, "new LB;, pop, retv").
			Method("array", "()V", 1, "int 1, arr [[LA;, pop, retv").
			Method("field", "()V", 1, "null, getf A.x:I, pop, retv").
			Method("type", "()V", 1, "null, getf C.a:LA;, pop, retv").
			Method("call", "()V", 1, "null, call A.m:()V, retv").
			Method("takes", "()V", 1, "null, null, call C.m:([LA;)V, retv").
			Method("gives", "()V", 1, "null, call C.n:()LA;, pop, retv").
			Method("hand", "()V", 1, "@a nop, @b retv, @h pop, retv", "@a @b @h E").
			Method("other", "()V", 1, "new LC;, pop, retv").
			Method("sig", "(LA;)V", 2, "load 1, pop, retv").
			Method("unused", "()V", 1, "str LA;, pop, retv").
			Method("always", "()V", 1, "new LDivExc;, pop, retv")
	}
	c := asm.New("C", "Object", "a LA;").Method("m", "([LA;)V", 2, "retv").Method("n", "()LA;", 1, "null, ret")
	b, e := asm.New("B", "A", "b I"), asm.New("E", "Exc")
	a := func(fields ...string) *asm.Class {
		return asm.New("A", "Object", fields...).Method("m", "()V", 1, "retv")
	}
	of := func(names ...string) []delta.Key {
		var l []delta.Key
		for _, n := range names {
			l = append(l, key("S", n))
		}
		return l
	}
	old := written(t, c, speak(), b, e, a("x I"))
	all := of("new", "below", "array", "field", "type", "call", "takes", "gives")
	held(t, old, written(t, c, speak(), b, e, a("x I")))
	held(t, old, written(t, c, speak(), b, e, a("x I", "y I")), all...)
	held(t, old, written(t, c, speak(), b, e, a("y I", "x I")), all...)
	held(t, old, written(t, c, speak(), b, e, a("x I").Method("more", "()V", 1, "retv")), all...)
	// With other code alone nobody is held who just speaks of it.
	held(t, old, written(t, c, speak(), b, e, asm.New("A", "Object", "x I").Method("m", "()V", 2, "nop, retv")), key("A", "m"))
	// A class below is another one alone; so is one that a handler is of.
	held(t, old, written(t, c, speak(), asm.New("B", "A", "b B"), e, a("x I")), of("below")...)
	held(t, old, written(t, c, speak(), b, asm.New("E", "Exc", "why I"), a("x I")), of("hand")...)
	// Where the own method of B stands in A's place nothing is another one.
	held(t, old, written(t, c, speak(), asm.New("B", "A", "b I").Method("m", "()V", 1, "retv"), e, a("x I")))
}

// P20.3: the chapter's words ask of classes that both tables have; one that is gone holds none but its own methods.
func TestHeldGone(t *testing.T) {
	s := asm.New("S", "Object").Method("m", "()V", 1, "retv, new LA;, pop, retv")
	old := written(t, s, asm.New("A", "Object", "x I").Method("m", "()V", 1, "retv"))
	held(t, old, written(t, s), key("A", "m"))
	layouts(t, old, written(t, s))
}

// P20.3: a class that stands below another one has other fields, though its own ones are the same.
func TestOtherSuper(t *testing.T) {
	a, b := asm.New("A", "Object", "x I"), asm.New("B", "Object", "x B")
	of := func(super string) *table.Table {
		return written(t, a, b, asm.New("C", super, "y I").Method("m", "()V", 1, "new LC;, pop, retv"))
	}
	held(t, of("A"), of("B"), key("C", "m"))
	layouts(t, of("A"), of("B"), "C")
	held(t, of("A"), of("A"))
}

// P20.3: in the order of the old table's Names.
func TestLayouts(t *testing.T) {
	old := tableOf(t, family()...)
	layouts(t, old, old)
	with := func(l ...api.Class) *table.Table {
		merged, _, _ := delta.Merge(old, api.Bundle{Classes: l})
		return tableOf(t, merged...)
	}
	layouts(t, old, with(class("A", "Object")), "C", "A", "B")
	layouts(t, old, with(class("A", "Object", "x B")), "C", "A", "B")
	layouts(t, old, with(class("A", "Object", "w I")), "C", "A", "B")
	layouts(t, old, with(class("B", "A", "y LC;", "v I")), "C", "B")
	layouts(t, old, with(class("C", "B", "z [S"), class("D", "Exc", "d I"), class("E", "A", "e I")), "C", "D")
	layouts(t, with(class("E", "A", "e I")), old)
	layouts(t, old, tableOf(t, class("B", "Object", "y LB;"), class("A", "Object")), "A", "B")
	layouts(t, old, tableOf(t))
	// Methods alone are no fields.
	layouts(t, old, with(classesOf(t, asm.New("A", "Object", "x I").Method("m", "()V", 1, "retv"))...))
	// A field that has come up from below stands where it did.
	layouts(t, old, with(class("A", "Object", "x I", "y LC;"), class("B", "A")), "A")
}

// Rule 4 of the document: what is answered is the caller's.
func TestListsOfTheirOwn(t *testing.T) {
	old, now := written(t, asm.New("A", "Object", "x I").Method("m", "()V", 1, "retv")), written(t, asm.New("A", "Object", "y I"))
	delta.Held(old, now)[0].Name = "n"
	delta.Layouts(old, now)[0] = "B"
	held(t, old, now, key("A", "m"))
	layouts(t, old, now, "A")
}
