package kind_test

import (
	"math"
	"strings"
	"testing"

	"hornbook/api"
	"hornbook/kind"
	"hornbook/table"
)

// constants are of each kind: such as can be asked, and such as can not.
func constants() []api.Const {
	l := []api.Const{{Kind: api.CInt, N: 5}, {Kind: api.CStr, S: "text"}}
	for _, d := range []string{"LA;", "LB;", "LObject;", "LX;", "LZ;", "S", "I", "B", "N", "V", "", "[I", "[LA;", "[LZ;", "[[[[S", "[[[[[S", "A"} {
		l = append(l, api.Const{Kind: api.CType, S: d})
	}
	for _, f := range []string{"A x I", "A a LA;", "B x I", "B s S", "D s S", "A s S", "A x B", "A X I", "A m (I)V", "Z x I", "Object x I", "A - -"} {
		w := words(f)
		l = append(l, api.Const{Kind: api.CField, S: w[0], T: w[1], U: w[2]})
	}
	for _, m := range []string{"A m (I)V", "A n (LA;[IS)LB;", "D m (I)V", "B run ()V", "A run ()V", "C run (I)V", "C run ()V", "X go (IIIIII)[S", "X is ()B", "A m (B)V", "A m (I)I", "A x I", "Z m (I)V", "Exc m (I)V", "A - -"} {
		w := words(m)
		l = append(l, api.Const{Kind: api.CMeth, S: w[0], T: w[1], U: w[2]})
	}
	return append(l, api.Const{Kind: 0}, api.Const{Kind: 6, S: "LA;"})
}

// at answers the place of a constant among them, by its words.
func at(t *testing.T, kinds int, text string) int {
	t.Helper()
	for i, c := range constants() {
		if c.Kind == kinds && strings.TrimSpace(c.S+" "+c.T+" "+c.U) == text {
			return i
		}
	}
	t.Fatalf("there is no constant %q", text)
	return -1
}

// P9.3: each instruction, by hand: its constant's words, and the stacks ahead of it and behind it; "!" of none.
func TestStepOfEachInstruction(t *testing.T) {
	x := made(t)
	for _, c := range []struct {
		op       int
		constant string
		in, out  string
	}{
		{api.Nop, "", "", ""}, {api.Nop, "", "I LA;", "I LA;"},
		{api.Int, "", "", "I"}, {api.Int, "", "S", "S I"}, {api.Str, "text", "", "S"}, {api.Str, "text", "B", "B S"},
		{api.True, "", "", "B"}, {api.False, "", "I", "I B"}, {api.Null, "", "", "N"}, {api.Read, "", "", "I"}, {api.Read, "", "LA;", "LA; I"},
		{api.Pop, "", "I", ""}, {api.Pop, "", "I N", "I"}, {api.Pop, "", "-", ""}, {api.Pop, "", "", "!"},
		{api.Dup, "", "I", "I I"}, {api.Dup, "", "B LA;", "B LA; LA;"}, {api.Dup, "", "N", "N N"}, {api.Dup, "", "", "!"},
		{api.Add, "", "I I", "I"}, {api.Sub, "", "I I", "I"}, {api.Mul, "", "I I", "I"}, {api.Div, "", "I I", "I"}, {api.Rem, "", "S I I", "S I"},
		{api.Add, "", "I", "!"}, {api.Add, "", "", "!"}, {api.Add, "", "I B", "!"}, {api.Sub, "", "B I", "!"}, {api.Mul, "", "S S", "!"}, {api.Div, "", "N I", "!"}, {api.Rem, "", "B B", "!"},
		{api.Neg, "", "I", "I"}, {api.Neg, "", "B", "!"}, {api.Neg, "", "", "!"}, {api.Not, "", "B", "B"}, {api.Not, "", "I", "!"}, {api.Not, "", "", "!"},
		{api.Lt, "", "I I", "B"}, {api.Le, "", "S I I", "S B"}, {api.EqI, "", "I I", "B"}, {api.Lt, "", "I", "!"}, {api.Le, "", "B B", "!"}, {api.EqI, "", "I B", "!"}, {api.EqI, "", "N N", "!"},
		{api.EqB, "", "B B", "B"}, {api.EqB, "", "I I", "!"}, {api.EqB, "", "B I", "!"}, {api.EqB, "", "B", "!"},
		{api.EqR, "", "LA; LB;", "B"}, {api.EqR, "", "N N", "B"}, {api.EqR, "", "S [I", "B"}, {api.EqR, "", "I LObject; [[S", "I B"}, {api.EqR, "", "I I", "!"}, {api.EqR, "", "LA; I", "!"}, {api.EqR, "", "B S", "!"}, {api.EqR, "", "S", "!"}, {api.EqR, "", "", "!"},
		{api.Jump, "", "", ""}, {api.Jump, "", "I I", "I I"}, {api.JumpT, "", "B", ""}, {api.JumpF, "", "I B", "I"}, {api.JumpT, "", "I", "!"}, {api.JumpF, "", "", "!"}, {api.JumpT, "", "N", "!"},
		{api.New, "LA;", "", "LA;"}, {api.New, "LObject;", "I", "I LObject;"}, {api.New, "LX;", "", "LX;"}, {api.New, "LZ;", "", "!"}, {api.New, "S", "", "!"}, {api.New, "[LA;", "", "!"}, {api.New, "I", "", "!"}, {api.New, "N", "", "!"}, {api.New, "A", "", "!"}, {api.New, "", "", "!"},
		{api.GetF, "A x I", "LA;", "I"}, {api.GetF, "A x I", "LD;", "I"}, {api.GetF, "A x I", "N", "I"}, {api.GetF, "B x I", "LB;", "I"}, {api.GetF, "A a LA;", "I LC;", "I LA;"}, {api.GetF, "D s S", "LD;", "S"},
		{api.GetF, "B x I", "LA;", "!"}, {api.GetF, "B s S", "LC;", "!"}, {api.GetF, "D s S", "LB;", "!"}, {api.GetF, "A x I", "LObject;", "!"}, {api.GetF, "A x I", "[LA;", "!"}, {api.GetF, "A x I", "I", "!"}, {api.GetF, "A x I", "", "!"},
		{api.GetF, "A s S", "LB;", "!"}, {api.GetF, "A x B", "LA;", "!"}, {api.GetF, "A X I", "LA;", "!"}, {api.GetF, "A m (I)V", "LA;", "!"}, {api.GetF, "Z x I", "N", "!"}, {api.GetF, "Object x I", "LObject;", "!"}, {api.GetF, "A", "LA;", "!"},
		{api.PutF, "A x I", "LA; I", ""}, {api.PutF, "A x I", "N I", ""}, {api.PutF, "A a LA;", "S LB; LC;", "S"}, {api.PutF, "A a LA;", "LD; N", ""}, {api.PutF, "B s S", "LB; S", ""},
		{api.PutF, "A x I", "I LA;", "!"}, {api.PutF, "A x I", "LA; B", "!"}, {api.PutF, "A x I", "LA;", "!"}, {api.PutF, "A x I", "I", "!"}, {api.PutF, "A a LA;", "LA; LObject;", "!"}, {api.PutF, "B s S", "LA; S", "!"}, {api.PutF, "A x B", "LA; B", "!"}, {api.PutF, "Z x I", "N I", "!"},
		{api.Arr, "[I", "I", "[I"}, {api.Arr, "[LA;", "B I", "B [LA;"}, {api.Arr, "[[[[S", "I", "[[[[S"}, {api.Arr, "[LZ;", "I", "!"}, {api.Arr, "[[[[[S", "I", "!"}, {api.Arr, "LA;", "I", "!"}, {api.Arr, "I", "I", "!"}, {api.Arr, "[I", "B", "!"}, {api.Arr, "[I", "", "!"},
		{api.ALoad, "", "[I I", "I"}, {api.ALoad, "", "[LA; I", "LA;"}, {api.ALoad, "", "S [[B I", "S [B"}, {api.ALoad, "", "N I", "!"}, {api.ALoad, "", "LObject; I", "!"}, {api.ALoad, "", "S I", "!"}, {api.ALoad, "", "I [I", "!"}, {api.ALoad, "", "[I B", "!"}, {api.ALoad, "", "[I", "!"}, {api.ALoad, "", "I", "!"}, {api.ALoad, "", "[V I", "!"}, {api.ALoad, "", "[N I", "!"}, {api.ALoad, "", "[[[[[I I", "!"},
		{api.AStore, "", "[I I I", ""}, {api.AStore, "", "[LA; I LD;", ""}, {api.AStore, "", "S [LA; I N", "S"}, {api.AStore, "", "[LObject; I [I", ""}, {api.AStore, "", "[[I I [I", ""}, {api.AStore, "", "[[I I N", ""},
		{api.AStore, "", "[LB; I LA;", "!"}, {api.AStore, "", "[I I B", "!"}, {api.AStore, "", "[I I N", "!"}, {api.AStore, "", "N I I", "!"}, {api.AStore, "", "[I B I", "!"}, {api.AStore, "", "I [I I", "!"}, {api.AStore, "", "[I I", "!"}, {api.AStore, "", "[LObject; I I", "!"}, {api.AStore, "", "[[LA; I [LB;", "!"}, {api.AStore, "", "I I", "!"}, {api.AStore, "", "I", "!"}, {api.AStore, "", "", "!"},
		{api.ALen, "", "[I", "I"}, {api.ALen, "", "B [[LA;", "B I"}, {api.ALen, "", "N", "!"}, {api.ALen, "", "S", "!"}, {api.ALen, "", "LObject;", "!"}, {api.ALen, "", "", "!"},
		{api.Call, "A m (I)V", "LA; I", ""}, {api.Call, "A m (I)V", "S LD; I", "S"}, {api.Call, "A m (I)V", "N I", ""}, {api.Call, "D m (I)V", "LD; I", ""}, {api.Call, "A n (LA;[IS)LB;", "LC; LD; [I S", "LB;"}, {api.Call, "A n (LA;[IS)LB;", "I N N N N", "I LB;"}, {api.Call, "B run ()V", "LB;", ""}, {api.Call, "X is ()B", "LX;", "B"}, {api.Call, "X go (IIIIII)[S", "LX; I I I I I I", "[S"},
		{api.Call, "D m (I)V", "LB; I", "!"}, {api.Call, "A m (I)V", "I LA;", "!"}, {api.Call, "A m (I)V", "LA;", "!"}, {api.Call, "A m (I)V", "I", "!"}, {api.Call, "A m (I)V", "LA; B", "!"}, {api.Call, "A n (LA;[IS)LB;", "LA; LA; S [I", "!"}, {api.Call, "A n (LA;[IS)LB;", "LA; LObject; [I S", "!"}, {api.Call, "A n (LA;[IS)LB;", "LA; [I S", "!"}, {api.Call, "X go (IIIIII)[S", "LX; I I I I I", "!"},
		{api.Call, "A run ()V", "LB;", "!"}, {api.Call, "C run ()V", "LC;", "!"}, {api.Call, "A m (B)V", "LA; B", "!"}, {api.Call, "A m (I)I", "LA; I", "!"}, {api.Call, "A x I", "LA;", "!"}, {api.Call, "Z m (I)V", "N I", "!"}, {api.Call, "Exc m (I)V", "LExc; I", "!"}, {api.Call, "A", "LA;", "!"},
		{api.Throw, "", "LExc;", ""}, {api.Throw, "", "I LX;", "I"}, {api.Throw, "", "N", ""}, {api.Throw, "", "LMemExc;", ""}, {api.Throw, "", "LObject;", "!"}, {api.Throw, "", "LA;", "!"}, {api.Throw, "", "S", "!"}, {api.Throw, "", "[LExc;", "!"}, {api.Throw, "", "I", "!"}, {api.Throw, "", "", "!"},
		{api.Enter, "", "LA;", ""}, {api.Enter, "", "I N", "I"}, {api.Exit, "", "[I", ""}, {api.Exit, "", "S", ""}, {api.Enter, "", "I", "!"}, {api.Exit, "", "B", "!"}, {api.Enter, "", "", "!"}, {api.Exit, "", "", "!"},
		{api.Cast, "LA;", "LObject;", "LA;"}, {api.Cast, "[LA;", "S", "[LA;"}, {api.Cast, "S", "N", "S"}, {api.Cast, "LB;", "I LC;", "I LB;"}, {api.Cast, "LObject;", "LZ;", "LObject;"}, {api.Cast, "LZ;", "LA;", "!"}, {api.Cast, "[LZ;", "LA;", "!"}, {api.Cast, "I", "LObject;", "!"}, {api.Cast, "B", "LObject;", "!"}, {api.Cast, "N", "LA;", "!"}, {api.Cast, "V", "LA;", "!"}, {api.Cast, "[[[[[S", "N", "!"}, {api.Cast, "LA;", "I", "!"}, {api.Cast, "LA;", "B", "!"}, {api.Cast, "LA;", "", "!"},
		{api.Is, "LA;", "LObject;", "B"}, {api.Is, "[I", "S [I", "S B"}, {api.Is, "S", "N", "B"}, {api.Is, "[[[[S", "LB;", "B"}, {api.Is, "LZ;", "LA;", "!"}, {api.Is, "I", "LObject;", "!"}, {api.Is, "N", "LA;", "!"}, {api.Is, "LA;", "I", "!"}, {api.Is, "LA;", "", "!"},
		{api.Print, "", "I", ""}, {api.Print, "", "I B", "I"}, {api.Print, "", "S", ""}, {api.Print, "", "N", "!"}, {api.Print, "", "LA;", "!"}, {api.Print, "", "[S", "!"}, {api.Print, "", "V", "!"}, {api.Print, "", "", "!"},
		{api.Join, "", "S S", "S"}, {api.Join, "", "N S", "S"}, {api.Join, "", "I S N", "I S"}, {api.Join, "", "N N", "S"}, {api.Join, "", "S", "!"}, {api.Join, "", "S I", "!"}, {api.Join, "", "LObject; S", "!"}, {api.Join, "", "", "!"},
		{api.SLen, "", "S", "I"}, {api.SLen, "", "N", "I"}, {api.SLen, "", "I S", "I I"}, {api.SLen, "", "[S", "!"}, {api.SLen, "", "LObject;", "!"}, {api.SLen, "", "I", "!"}, {api.SLen, "", "", "!"},
		{api.Spawn, "", "LB;", ""}, {api.Spawn, "", "I LD;", "I"}, {api.Spawn, "", "LA;", "!"}, {api.Spawn, "", "LC;", "!"}, {api.Spawn, "", "LE;", "!"}, {api.Spawn, "", "N", "!"}, {api.Spawn, "", "LObject;", "!"}, {api.Spawn, "", "LZ;", "!"}, {api.Spawn, "", "[LB;", "!"}, {api.Spawn, "", "S", "!"}, {api.Spawn, "", "I", "!"}, {api.Spawn, "", "", "!"},
		{api.Old, "A x I", "LA;", "!"}, {api.Old, "A x I", "", "!"}, {api.Old, "A x I", "I", "!"},
	} {
		i := api.Ins{Op: c.op}
		if kinds := kindOf(c.op); kinds > 0 {
			i.A = at(t, kinds, c.constant)
		}
		held := frame("LA; I -|" + c.in)
		got, e := kind.Step(x, constants(), "V", i, held)
		if c.out == "!" {
			if e != api.ErrVerify || !zero(got) {
				t.Errorf("instruction %d of %q, stack %q: %q, error %d, want none", c.op, c.constant, c.in, got, e)
			}
		} else if e != api.OK || !kind.Same(got, frame("LA; I -|"+c.out)) {
			t.Errorf("instruction %d of %q, stack %q: %q, error %d, want %q", c.op, c.constant, c.in, got, e, c.out)
		}
	}
}

// P9.3: what a method gives, and how it is left.
func TestStepOfReturns(t *testing.T) {
	x := made(t)
	for _, c := range []struct{ gives, in, out string }{
		{"I", "I", ""}, {"I", "B I", "B"}, {"LA;", "LD;", ""}, {"LA;", "N", ""}, {"[S", "N", ""}, {"LObject;", "[I", ""}, {"S", "S", ""},
		{"I", "B", "!"}, {"I", "", "!"}, {"LB;", "LA;", "!"}, {"[LA;", "[LB;", "!"}, {"V", "I", "!"}, {"V", "", "!"}, {"V", "V", "!"}, {"V", "N", "!"}, {"LZ;", "LZ;", "!"}, {"LZ;", "N", "!"}, {"", "-", "!"}, {"?", "?", "!"},
	} {
		got, e := kind.Step(x, nil, c.gives, api.Ins{Op: api.Ret}, frame("I|"+c.in))
		if (e == api.OK) != (c.out != "!") || e == api.OK && !kind.Same(got, frame("I|"+c.out)) || e != api.OK && (e != api.ErrVerify || !zero(got)) {
			t.Errorf("ret of %q, stack %q: %q, error %d, want %q", c.gives, c.in, got, e, c.out)
		}
		got, e = kind.Step(x, nil, c.gives, api.Ins{Op: api.RetV}, frame("I|"+c.in))
		if (e == api.OK) != (c.gives == "V") || e == api.OK && !kind.Same(got, frame("I|"+c.in)) || e != api.OK && (e != api.ErrVerify || !zero(got)) {
			t.Errorf("retv of %q, stack %q: %q, error %d", c.gives, c.in, got, e)
		}
	}
}

// P9.3: locals, by hand: which are asked is what the frame has.
func TestStepOfLocals(t *testing.T) {
	x := made(t)
	many := strings.Repeat("- ", 29) + "I"
	for _, c := range []struct {
		op, a   int
		in, out string
	}{
		{api.Load, 0, "LA; I -|", "LA; I -|LA;"}, {api.Load, 1, "LA; I -|B", "LA; I -|B I"}, {api.Load, 0, "N|", "N|N"}, {api.Load, 29, many + "|", many + "|I"},
		{api.Load, 2, "LA; I -|", "!"}, {api.Load, 3, "LA; I -|", "!"}, {api.Load, -1, "LA; I -|", "!"}, {api.Load, math.MaxInt, "LA;|", "!"}, {api.Load, math.MinInt, "LA;|", "!"}, {api.Load, 0, "|", "!"}, {api.Load, 0, "-|", "!"},
		{api.Store, 0, "LA; I -|B", "B I -|"}, {api.Store, 2, "LA; I -|I LB;", "LA; I LB;|I"}, {api.Store, 1, "LA; I|N", "LA; N|"}, {api.Store, 0, "S|S", "S|"},
		{api.Store, 3, "LA; I -|B", "!"}, {api.Store, -1, "LA; I -|B", "!"}, {api.Store, 0, "LA;|", "!"}, {api.Store, 0, "|I", "!"}, {api.Store, math.MaxInt, "I|I", "!"},
	} {
		got, e := kind.Step(x, nil, "V", api.Ins{Op: c.op, A: c.a}, frame(c.in))
		if c.out == "!" {
			if e != api.ErrVerify || !zero(got) {
				t.Errorf("instruction %d of %d, %q: %q, error %d, want none", c.op, c.a, c.in, got, e)
			}
		} else if e != api.OK || !kind.Same(got, frame(c.out)) {
			t.Errorf("instruction %d of %d, %q: %q, error %d, want %q", c.op, c.a, c.in, got, e, c.out)
		}
	}
}

// P9.3: at the limit of the stack, and beyond it: what counts is how many are left.
func TestStepOfHowMany(t *testing.T) {
	x := made(t)
	for _, c := range []struct{ op, more int }{
		{api.Int, 1}, {api.Str, 1}, {api.True, 1}, {api.False, 1}, {api.Null, 1}, {api.Read, 1}, {api.Load, 1}, {api.Dup, 1}, {api.New, 1},
		{api.Nop, 0}, {api.Jump, 0}, {api.Neg, 0}, {api.RetV, 0}, {api.Pop, -1}, {api.Store, -1}, {api.Print, -1}, {api.Add, -1}, {api.Lt, -1},
	} {
		i := api.Ins{Op: c.op}
		switch c.op {
		case api.Str:
			i.A = 1
		case api.New:
			i.A = at(t, api.CType, "LA;")
		}
		for n := 2; n < 20; n++ {
			got, e := kind.Step(x, constants(), "V", i, kind.Frame{Locals: []string{"I"}, Stack: words(strings.Repeat("I ", n))})
			if n+c.more > api.MaxStack {
				if e != api.ErrVerify || !zero(got) {
					t.Errorf("instruction %d of %d values: error %d", c.op, n, e)
				}
			} else if e != api.OK || len(got.Stack) != n+c.more {
				t.Errorf("instruction %d of %d values: %q, error %d", c.op, n, got, e)
			}
		}
	}
}

// P9.3: what can not be among these constants; a jump's place is not asked.
func TestStepOfWhatCanNotBe(t *testing.T) {
	x := made(t)
	consts := constants()
	stacks := []string{"", "I", "B", "LA;", "LA; I", "N", "S S"}
	for op := -2; op < api.Ops+3; op++ {
		for _, a := range []int{math.MinInt, -1, 0, 1, 2, 7, len(consts) - 2, len(consts) - 1, len(consts), math.MaxInt} {
			var can bool
			switch {
			case op == api.Jump || op == api.JumpT || op == api.JumpF:
				can = true
			case op < 0 || op >= api.Old:
				can = false
			case kindOf(op) > 0:
				can = a >= 0 && a < len(consts) && consts[a].Kind == kindOf(op)
			default: // of Load and Store, too: there is one local
				can = a == 0
			}
			for _, s := range stacks {
				for _, t2 := range []*table.Table{x, nil} {
					got, e := kind.Step(t2, consts, "V", api.Ins{Op: op, A: a}, frame("I|"+s))
					if e != api.OK && (e != api.ErrVerify || !zero(got)) {
						t.Errorf("instruction %d of %d, stack %q: %q, error %d", op, a, s, got, e)
					}
					if e == api.OK && (!can || t2 == nil) {
						t.Errorf("instruction %d of %d, stack %q, can be", op, a, s)
					}
				}
			}
		}
	}
	for _, a := range []int{math.MinInt, -1, 0, 600, math.MaxInt} {
		if got, e := kind.Step(x, nil, "V", api.Ins{Op: api.Jump, A: a}, frame("|I")); e != api.OK || !kind.Same(got, frame("|I")) {
			t.Errorf("a jump to %d: error %d", a, e)
		}
		if got, e := kind.Step(x, nil, "V", api.Ins{Op: api.JumpF, A: a}, frame("|B")); e != api.OK || !zero(got) {
			t.Errorf("a jump to %d: error %d", a, e)
		}
	}
	for _, t2 := range []*table.Table{nil, {}} {
		for op := range api.Ops {
			got, e := kind.Step(t2, consts, "I", api.Ins{Op: op, A: 0}, frame("I|I I"))
			if t2 == nil && e != api.ErrVerify || e != api.OK && !zero(got) {
				t.Errorf("instruction %d: %q, error %d of no table", op, got, e)
			}
		}
	}
}

// P9.3: a constant's kind plays a part, whatever its words.
func TestStepOfConstantsOfOtherKinds(t *testing.T) {
	x := made(t)
	for _, c := range []struct {
		op   int
		c    api.Const
		in   string
		from int
	}{
		{api.Int, api.Const{}, "", api.CInt}, {api.Str, api.Const{S: "a"}, "", api.CStr}, {api.New, api.Const{S: "LA;"}, "", api.CType}, {api.Arr, api.Const{S: "[I"}, "I", api.CType}, {api.Cast, api.Const{S: "LA;"}, "N", api.CType}, {api.Is, api.Const{S: "LA;"}, "N", api.CType},
		{api.GetF, api.Const{S: "A", T: "x", U: "I"}, "LA;", api.CField}, {api.PutF, api.Const{S: "A", T: "x", U: "I"}, "LA; I", api.CField}, {api.Call, api.Const{S: "A", T: "m", U: "(I)V"}, "LA; I", api.CMeth},
	} {
		for kinds := -1; kinds < 8; kinds++ {
			c.c.Kind = kinds
			_, e := kind.Step(x, []api.Const{c.c}, "V", api.Ins{Op: c.op}, frame("|"+c.in))
			if (e == api.OK) != (kinds == c.from) {
				t.Errorf("instruction %d of a constant of the kind %d: error %d", c.op, kinds, e)
			}
		}
	}
}
