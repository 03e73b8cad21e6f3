package kind_test

import (
	"slices"
	"strings"
	"testing"

	"hornbook/api"
	"hornbook/hier"
	"hornbook/kind"
	"hornbook/table"
)

// kindOf answers which constant an instruction has, as chapter 4 tells it; 0: none.
func kindOf(op int) int {
	switch op {
	case api.Int:
		return api.CInt
	case api.Str:
		return api.CStr
	case api.New, api.Arr, api.Cast, api.Is:
		return api.CType
	case api.GetF, api.PutF, api.Old:
		return api.CField
	case api.Call:
		return api.CMeth
	}
	return 0
}

// The chapter's table, of the instructions whose words are enough: what is taken, a stroke, what is left. "*" is one of things, "~" ahead what is fitted, not had.
func row(op int) string {
	switch op {
	case api.Nop, api.Jump:
		return "|"
	case api.Int, api.Read:
		return "|I"
	case api.Str:
		return "|S"
	case api.True, api.False:
		return "|B"
	case api.Null:
		return "|N"
	case api.Add, api.Sub, api.Mul, api.Div, api.Rem:
		return "I I|I"
	case api.Neg:
		return "I|I"
	case api.Not:
		return "B|B"
	case api.Lt, api.Le, api.EqI:
		return "I I|B"
	case api.EqB:
		return "B B|B"
	case api.EqR:
		return "* *|B"
	case api.JumpT, api.JumpF:
		return "B|"
	case api.Throw:
		return "~LExc;|"
	case api.Enter, api.Exit:
		return "*|"
	case api.Join:
		return "~S ~S|S"
	case api.SLen:
		return "~S|I"
	}
	return ""
}

// model works out anew what Step answers.
type model struct {
	t      *table.Table
	h      *hier.Hier
	consts []api.Const
	gives  string
}

// things tells whether a type is one of things, as chapter 2 tells it.
func things(d string) bool {
	return d != "" && (d == "N" || d == "S" || d[0] == '[' || d[0] == 'L')
}

// wordsOf answers the row of an instruction whose words its constant, the stack or the method say; "!" of one that can not be.
func (m model) wordsOf(x api.Ins, f kind.Frame) string {
	var c api.Const
	if kinds := kindOf(x.Op); kinds > 0 {
		if x.A < 0 || x.A >= len(m.consts) || m.consts[x.A].Kind != kinds {
			return "!"
		}
		c = m.consts[x.A]
	}
	top := func(n int) string {
		if len(f.Stack) <= n {
			return "?"
		}
		return f.Stack[len(f.Stack)-1-n]
	}
	is := func(ok bool, row string) string {
		if !ok {
			return "!"
		}
		return row
	}
	field := func(row string) string {
		return is(slices.Contains(m.t.Layout(c.S), api.Field{Name: c.T, Desc: c.U}), row)
	}
	switch x.Op {
	case api.Pop:
		return top(0) + "|"
	case api.Dup:
		return top(0) + "|" + top(0) + " " + top(0)
	case api.New:
		return is(strings.HasPrefix(c.S, "L") && m.h.Known(c.S), "|"+c.S)
	case api.GetF:
		return field("~L" + c.S + ";|" + c.U)
	case api.PutF:
		return field("~L" + c.S + "; ~" + c.U + "|")
	case api.Arr:
		return is(strings.HasPrefix(c.S, "[") && m.h.Known(c.S), "I|"+c.S)
	case api.ALoad:
		elem, ok := strings.CutPrefix(top(1), "[")
		return is(ok, top(1)+" I|"+elem)
	case api.AStore:
		elem, ok := strings.CutPrefix(top(2), "[")
		return is(ok, top(2)+" I ~"+elem+"|")
	case api.ALen:
		return is(strings.HasPrefix(top(0), "["), top(0)+"|I")
	case api.Call:
		return m.callOf(c)
	case api.Ret:
		return is(m.gives != "V", "~"+m.gives+"|")
	case api.RetV:
		return is(m.gives == "V", "|")
	case api.Cast:
		return is(m.h.Known(c.S) && things(c.S), "*|"+c.S)
	case api.Is:
		return is(m.h.Known(c.S) && things(c.S), "*|B")
	case api.Print:
		return is(slices.Contains([]string{"I", "B", "S"}, top(0)), top(0)+"|")
	case api.Spawn:
		class := strings.Trim(top(0), "L;")
		has := slices.ContainsFunc(m.t.Methods(class), func(e table.Entry) bool { return e.Name == "run" && e.Sig == "()V" })
		return is(top(0) == "L"+class+";" && has, top(0)+"|")
	}
	return is(row(x.Op) != "", row(x.Op))
}

// callOf answers a call's row.
func (m model) callOf(c api.Const) string {
	if !slices.ContainsFunc(m.t.Methods(c.S), func(e table.Entry) bool { return e.Name == c.T && e.Sig == c.U }) {
		return "!"
	}
	takes, gives, _ := strings.Cut(c.U[1:], ")")
	row := "~L" + c.S + ";"
	for takes != "" {
		n := strings.IndexAny(takes, "IBSL") + 1
		if takes[n-1] == 'L' {
			n = strings.Index(takes, ";") + 1
		}
		row, takes = row+" ~"+takes[:n], takes[n:]
	}
	if gives == "V" {
		gives = ""
	}
	return row + "|" + gives
}

// step works out anew what Step answers.
func (m model) step(x api.Ins, f kind.Frame) (kind.Frame, bool) {
	out := kind.Frame{Locals: slices.Clone(f.Locals), Stack: slices.Clone(f.Stack)}
	if x.Op == api.Load || x.Op == api.Store {
		if x.A < 0 || x.A >= len(f.Locals) {
			return kind.Frame{}, false
		}
		if x.Op == api.Load {
			out.Stack = append(out.Stack, f.Locals[x.A])
			return out, f.Locals[x.A] != "" && len(out.Stack) <= 16
		}
		if len(f.Stack) == 0 {
			return kind.Frame{}, false
		}
		out.Locals[x.A] = f.Stack[len(f.Stack)-1]
		out.Stack = out.Stack[:len(f.Stack)-1]
		return out, len(out.Stack) <= 16
	}
	jump := x.Op == api.Jump || x.Op == api.JumpT || x.Op == api.JumpF
	row := m.wordsOf(x, f)
	if row == "!" || kindOf(x.Op) == 0 && x.A != 0 && !jump {
		return kind.Frame{}, false
	}
	takes, leaves, _ := strings.Cut(row, "|")
	wanted := strings.Fields(takes)
	if len(wanted) > len(f.Stack) {
		return kind.Frame{}, false
	}
	rest := len(f.Stack) - len(wanted)
	for i, w := range wanted {
		d := f.Stack[rest+i]
		fits, fit := strings.CutPrefix(w, "~")
		if w == "*" && !things(d) || fit && !m.h.Sub(d, fits) || w != "*" && !fit && d != w {
			return kind.Frame{}, false
		}
	}
	out.Stack = append(out.Stack[:rest], strings.Fields(leaves)...)
	return out, len(out.Stack) <= 16
}

// holdStep holds what Step answers.
func holdStep(t *testing.T, m model, x api.Ins, f kind.Frame) {
	t.Helper()
	want, can := m.step(x, f)
	got, e := kind.Step(m.t, m.consts, m.gives, x, f)
	switch {
	case can && (e != api.OK || !kind.Same(got, want)):
		t.Errorf("Step(%v, %q) gives %q: %q, error %d, want %q", x, f, m.gives, got, e, want)
	case !can && (e != api.ErrVerify || !zero(got)):
		t.Errorf("Step(%v, %q) gives %q: %q, error %d, want none", x, f, m.gives, got, e)
	}
}

// stacks are all of at most so many of some types.
func stacks(n int, types ...string) [][]string {
	all := [][]string{nil}
	for at := 0; n > 0; n-- {
		for end := len(all); at < end; at++ {
			for _, d := range types {
				all = append(all, append(slices.Clone(all[at]), d))
			}
		}
	}
	return all
}

// instructions are all, each with each constant or local that it can have.
func instructions(consts []api.Const, locals int) []api.Ins {
	var l []api.Ins
	for op := range api.Ops {
		switch kinds := kindOf(op); {
		case kinds > 0:
			for a, c := range consts {
				if c.Kind == kinds {
					l = append(l, api.Ins{Op: op, A: a})
				}
			}
		case op == api.Load || op == api.Store:
			for a := range locals {
				l = append(l, api.Ins{Op: op, A: a})
			}
		default:
			l = append(l, api.Ins{Op: op})
		}
	}
	return l
}

// modelOf answers a model of the family's table.
func modelOf(t testing.TB, gives string) model {
	x := made(t)
	return model{x, x.Hier(), constants(), gives}
}

// P9.3: each instruction behind each stack of three values.
func TestStepOfEachStack(t *testing.T) {
	m := modelOf(t, "V")
	locals := []string{"LA;", "", "S"}
	for _, s := range stacks(2, "I", "B", "S", "N", "LA;", "LB;", "LC;", "LD;", "LE;", "LX;", "LExc;", "LObject;", "LZ;", "[I", "[LA;", "[LB;", "[[I", "[LZ;") {
		for _, x := range instructions(m.consts, 4) {
			holdStep(t, m, x, kind.Frame{Locals: locals, Stack: s})
		}
	}
	for _, s := range stacks(3, "I", "S", "N", "LA;", "LD;", "[I", "[LA;") {
		for _, x := range instructions(m.consts, 4) {
			holdStep(t, m, x, kind.Frame{Locals: locals, Stack: s})
		}
	}
	for _, gives := range []string{"I", "S", "LA;", "LObject;", "[I", "LZ;"} {
		m.gives = gives
		for _, s := range stacks(2, "I", "B", "S", "N", "LA;", "LB;", "LObject;", "LZ;", "[I") {
			holdStep(t, m, api.Ins{Op: api.Ret}, kind.Frame{Stack: s})
			holdStep(t, m, api.Ins{Op: api.RetV}, kind.Frame{Stack: s})
		}
	}
}

// fit tells whether each type of one frame fits that of another one at its place; what can not be used is fitted by all.
func fit(h *hier.Hier, a, b kind.Frame) bool {
	if len(a.Locals) != len(b.Locals) || len(a.Stack) != len(b.Stack) {
		return false
	}
	for i, d := range b.Locals {
		if d != "" && !h.Sub(a.Locals[i], d) {
			return false
		}
	}
	for i, d := range b.Stack {
		if !h.Sub(a.Stack[i], d) {
			return false
		}
	}
	return true
}

// P9.2 and P9.5: of each two types, on the stack and as a local, and the least that they fit.
func TestJoinOfEachTwo(t *testing.T) {
	h := made(t).Hier()
	types := []string{"I", "B", "S", "N", "LA;", "LB;", "LC;", "LD;", "LX;", "LExc;", "LObject;", "[I", "[LA;", "[LB;", "[[I"}
	for _, a := range append(types, "") {
		for _, b := range append(types, "") {
			want, ok := h.Join(a, b)
			f, e := kind.Join(h, kind.Frame{Locals: []string{"I", a}}, kind.Frame{Locals: []string{"I", b}})
			if e != api.OK || len(f.Locals) != 2 || f.Locals[0] != "I" || f.Locals[1] != want || len(f.Stack) != 0 {
				t.Errorf("Join of locals %q, %q = %q, error %d", a, b, f, e)
			}
			x, y := kind.Frame{Stack: []string{a, "I"}}, kind.Frame{Stack: []string{b, "I"}}
			f, e = kind.Join(h, x, y)
			if (e == api.OK) != ok || e != api.OK && (e != api.ErrVerify || !zero(f)) {
				t.Errorf("Join of a stack %q, %q = %q, error %d", a, b, f, e)
			}
			if ok && (!kind.Same(f, kind.Frame{Stack: []string{want, "I"}}) || !fit(h, x, f) || !fit(h, y, f)) {
				t.Errorf("Join of a stack %q, %q = %q", a, b, f)
			}
			for _, c := range types {
				if z := (kind.Frame{Stack: []string{c, "I"}}); fit(h, x, z) && fit(h, y, z) && (e != api.OK || !fit(h, f, z)) {
					t.Errorf("%q, %q fit %q, their Join %q does not", a, b, c, f)
				}
			}
		}
	}
}

// P9.6: what is left behind two frames fits what is left behind their Join.
func TestStepOfJoin(t *testing.T) {
	m := modelOf(t, "LA;")
	var frames []kind.Frame
	for _, s := range stacks(2, "I", "S", "N", "LA;", "LD;", "LE;", "[LA;", "[[I") {
		frames = append(frames, kind.Frame{Locals: []string{"LA;", "N", ""}, Stack: s}, kind.Frame{Locals: []string{"LD;", "[I", "I"}, Stack: s})
	}
	code := instructions(m.consts, 3)
	left := make([]map[int]kind.Frame, len(frames))
	for i, f := range frames {
		left[i] = map[int]kind.Frame{}
		for k, x := range code {
			if g, e := kind.Step(m.t, m.consts, m.gives, x, f); e == api.OK {
				left[i][k] = g
			}
		}
	}
	held := 0
	for i, a := range frames {
		for j, b := range frames {
			both, e := kind.Join(m.h, a, b)
			if e != api.OK {
				continue
			}
			for k, x := range code {
				f, can := left[i][k]
				g, also := left[j][k]
				if !can || !also {
					continue
				}
				if y, e := kind.Step(m.t, m.consts, m.gives, x, both); e == api.OK {
					held++
					if !fit(m.h, f, y) || !fit(m.h, g, y) {
						t.Errorf("Step(%v) behind %q, %q: %q, %q do not fit %q", x, a, b, f, g, y)
					}
				}
			}
		}
	}
	if held < 1000 {
		t.Errorf("only %d were held", held)
	}
}

// P9.1 to P9.4: no texts make a call panic, or hold otherwise than the words say.
func FuzzStep(f *testing.F) {
	f.Add(api.Add, 0, "V", "LA; I", "I I")
	f.Add(api.Call, 32, "V", "LA; -", "LB; LA; [I S")
	f.Add(api.AStore, 0, "LZ;", "", "[[I I [I")
	f.Add(api.ALoad, 0, "", "[V", "[V I")
	f.Add(-1, -1, "(", "LA;;", "- - -")
	m := modelOf(f, "V")
	f.Fuzz(func(t *testing.T, op, a int, gives, locals, stack string) {
		m := m
		m.gives = gives
		x := kind.Frame{Locals: words(locals), Stack: words(stack)}
		kind.Refs(x)
		kind.Start(locals, api.Method{Sig: gives, Locals: a})
		right := func(d string) bool { return d == "N" || m.h.Known(d) }
		if !slices.ContainsFunc(slices.Concat(x.Locals, x.Stack), func(d string) bool { return d != "" && !right(d) }) && !slices.Contains(x.Stack, "") {
			holdStep(t, m, api.Ins{Op: op, A: a}, x)
		}
		kind.Step(m.t, m.consts, gives, api.Ins{Op: op, A: a}, x)
		if f, e := kind.Join(m.h, x, x); e == api.OK && !fit(m.h, x, f) {
			t.Errorf("Join(%q, itself) = %q", x, f)
		}
	})
}
