package asm_test

import (
	"reflect"
	"testing"

	"hornbook/api"
	"hornbook/asm"
)

// What each text says.
func TestClass(t *testing.T) {
	a := asm.New("A", "Object", "x I", "next LA;").
		Method("m", "(I)I", 3, "int 5, str a b, load, @a store 2, new LA;,\n\tgetf A.x:I, @b @c jumpf @a, jump @c, call A.m:(I)I, int 5, ret", "@a @c @b Exc").
		Method("n", "()V", 1, "retv")
	want := api.Class{
		Name: "A", Super: "Object",
		Fields: []api.Field{{Name: "x", Desc: "I"}, {Name: "next", Desc: "LA;"}},
		Consts: []api.Const{{Kind: api.CInt, N: 5}, {Kind: api.CStr, S: "a b"}, {Kind: api.CType, S: "LA;"}, {Kind: api.CField, S: "A", T: "x", U: "I"}, {Kind: api.CMeth, S: "A", T: "m", U: "(I)I"}},
		Methods: []api.Method{
			{Name: "m", Sig: "(I)I", Locals: 3, Hand: []api.Hand{{From: 3, To: 6, At: 6, Class: "Exc"}}, Code: []api.Ins{
				{Op: api.Int}, {Op: api.Str, A: 1}, {Op: api.Load}, {Op: api.Store, A: 2}, {Op: api.New, A: 2}, {Op: api.GetF, A: 3}, {Op: api.JumpF, A: 3}, {Op: api.Jump, A: 6}, {Op: api.Call, A: 4}, {Op: api.Int}, {Op: api.Ret},
			}},
			{Name: "n", Sig: "()V", Locals: 1, Code: []api.Ins{{Op: api.RetV}}},
		},
	}
	b := asm.New("B", "A")
	if l, wrong := asm.Classes(a, b); wrong != "" || len(l) != 2 || !reflect.DeepEqual(l[0], want) || l[1].Name != "B" || l[1].Super != "A" {
		t.Errorf("Classes = %v, %s, want %v", l, wrong, want)
	}
	if x := a.Ins("getf A.x:I"); x != (api.Ins{Op: api.GetF, A: 3}) || len(a.Consts) != 5 {
		t.Errorf("Ins = %v", x)
	}
}

// The first text that says nothing is told.
func TestWrong(t *testing.T) {
	for _, x := range []struct{ text, hand, wrong string }{
		{"nop, no", "", `"no"`},
		{"int x, no", "", `"x"`},
		{"int 99999999999999999999", "", `"99999999999999999999"`},
		{"load x", "", `"x"`},
		{"jump @b", "", `"@b"`},
		{"jump", "", `""`},
		{"new A", "", `"A"`},
		{"getf A.x", "", `"Ax"`},
		{"@a nop", "@a @a", `""`},
		{"@a nop", "@a @a @b Exc", `"@b"`},
	} {
		var hand []string
		if x.hand != "" {
			hand = append(hand, x.hand)
		}
		c := asm.New("A", "Object").Method("m", "()V", 1, x.text, hand...).Method("n", "()V", 1, "what")
		if l, wrong := asm.Classes(asm.New("B", "Object"), c); l != nil || wrong != x.wrong {
			t.Errorf("%s: Classes = %v, %s, want %s", x.text, l, wrong, x.wrong)
		}
	}
}
