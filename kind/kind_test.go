package kind_test

import (
	"math"
	"reflect"
	"slices"
	"strings"
	"testing"

	"hornbook/api"
	"hornbook/hier"
	"hornbook/kind"
	"hornbook/table"
)

// family is classes with fields and methods: B, C and E below A, D below B; X is an exception's.
func family() []api.Class {
	method := func(name, sig string) api.Method {
		return api.Method{Name: name, Sig: sig, Locals: 7, Code: []api.Ins{{Op: api.RetV}}}
	}
	return []api.Class{
		{Name: "A", Super: "Object", Fields: []api.Field{{Name: "x", Desc: "I"}, {Name: "a", Desc: "LA;"}}, Methods: []api.Method{method("m", "(I)V"), method("n", "(LA;[IS)LB;")}},
		{Name: "B", Super: "A", Fields: []api.Field{{Name: "s", Desc: "S"}}, Methods: []api.Method{method("run", "()V"), method("m", "(I)V")}},
		{Name: "C", Super: "A", Methods: []api.Method{method("run", "(I)V")}},
		{Name: "D", Super: "B"},
		{Name: "E", Super: "A", Methods: []api.Method{method("run", "()I")}},
		{Name: "X", Super: "DivExc", Methods: []api.Method{method("go", "(IIIIII)[S"), method("is", "()B")}},
	}
}

// made answers the family's table.
func made(t testing.TB) *table.Table {
	t.Helper()
	x, name, e := table.New(family()...)
	if e != api.OK {
		t.Fatalf("New = %q, error %d", name, e)
	}
	return x
}

// words are those of a text, "" of "-".
func words(s string) []string {
	l := strings.Fields(s)
	for i := range l {
		if l[i] == "-" {
			l[i] = ""
		}
	}
	return l
}

// zero tells whether a frame is none.
func zero(f kind.Frame) bool {
	return len(f.Locals) == 0 && len(f.Stack) == 0
}

// P9.1, by hand.
func TestStart(t *testing.T) {
	for _, x := range []struct {
		class, sig string
		locals     int
		want       string
		e          api.Errno
	}{
		{"A", "()V", 1, "LA;", api.OK},
		{"A", "()V", 3, "LA; - -", api.OK},
		{"A", "(I[S)V", 3, "LA; I [S", api.OK},
		{"A", "(I[S)V", 5, "LA; I [S - -", api.OK},
		{"Zed", "(LNone;B[[[[LA;)[LZ;", 4, "LZed; LNone; B [[[[LA;", api.OK},
		{"A", "(IBSIBS)I", 7, "LA; I B S I B S", api.OK},
		{"A", "()V", 24, "LA;" + strings.Repeat(" -", 23), api.OK},
		{"A", "(I)S", 24, "LA; I" + strings.Repeat(" -", 22), api.OK},
		{"", "()V", 1, "L;", api.OK},
		{"no.name", "()V", 1, "Lno.name;", api.OK},
		{"A", "()V", 0, "", api.ErrArg},
		{"A", "()V", -1, "", api.ErrArg},
		{"A", "()V", math.MinInt, "", api.ErrArg},
		{"A", "(I[S)V", 2, "", api.ErrArg},
		{"A", "(IBSIBS)I", 6, "", api.ErrArg},
		{"A", "()V", 25, "", api.ErrArg},
		{"A", "()V", math.MaxInt, "", api.ErrArg},
		{"A", "", 1, "", api.ErrForm},
		{"A", "()", 1, "", api.ErrForm},
		{"A", "(V)V", 2, "", api.ErrForm},
		{"A", "()N", 1, "", api.ErrForm},
		{"A", "(N)V", 2, "", api.ErrForm},
		{"A", "()VV", 1, "", api.ErrForm},
		{"A", "(IIIIIII)V", 9, "", api.ErrForm},
		// The Sig goes ahead of the locals.
		{"A", "(", 0, "", api.ErrForm},
		{"A", "(", 25, "", api.ErrForm},
	} {
		f, e := kind.Start(x.class, api.Method{Name: "m", Sig: x.sig, Locals: x.locals})
		if e != x.e || !slices.Equal(f.Locals, words(x.want)) || len(f.Stack) != 0 {
			t.Errorf("Start(%q, %q, %d) = %q, error %d, want %q, error %d", x.class, x.sig, x.locals, f, e, x.want, x.e)
		}
	}
}

// P9.1: nothing but the Sig and Locals plays a part.
func TestStartOfWhatElseThereIs(t *testing.T) {
	f, e := kind.Start("A", api.Method{Name: "9", Sig: "(I)V", Locals: 2, Code: []api.Ins{{Op: -1}}, Hand: []api.Hand{{From: 9}}})
	if e != api.OK || !kind.Same(f, kind.Frame{Locals: []string{"LA;", "I"}}) {
		t.Errorf("Start = %q, error %d", f, e)
	}
}

// P9.2, by hand, either way round: locals and stack, with a stroke between.
func TestJoinOfTheFamily(t *testing.T) {
	h := made(t).Hier()
	for _, x := range []struct{ a, b, want string }{
		{"|", "|", "|"},
		{"LB; I N|LB;", "LC; B [I|N", "LA; - [I|LB;"},
		{"I B S N LA; [I -|", "I B S N LA; [I -|", "I B S N LA; [I -|"},
		{"- - - -|", "I N LA; [S|", "- - - -|"},
		{"I I B|", "N S [B|", "- - -|"},
		{"LD; LD; LX;|", "LB; LC; LMemExc;|", "LB; LA; LExc;|"},
		{"[LA; S [I|", "[LB; LA; [[I|", "LObject; LObject; LObject;|"},
		{"|I B S N LD; [I", "|I B N N LE; [B", "|I B S N LA; LObject;"},
		{"I|LA; LA;", "B|LB; N", "-|LA; LA;"},
		{"|I", "|B", "!"}, {"|I", "|N", "!"}, {"|I", "|LObject;", "!"}, {"|B", "|[B", "!"}, {"|I LA; I", "|I LA; S", "!"}, {"|B I", "|I I", "!"},
		{"|", "|I", "!"}, {"|I I", "|I", "!"}, {"I|", "|", "!"}, {"I -|", "I|", "!"}, {"I|I", "|I I", "!"}, {"-|", "|", "!"},
		// What can not be used has no Join, nor has a class that there is not.
		{"|-", "|-", "!"}, {"|V", "|V", "!"}, {"|LZ;", "|LZ;", "!"}, {"|LZ;", "|N", "!"}, {"|LZ;", "|LObject;", "!"}, {"V LZ; [[[[[I|", "V LZ; [[[[[I|", "- - -|"},
	} {
		for _, y := range [][2]kind.Frame{{frame(x.a), frame(x.b)}, {frame(x.b), frame(x.a)}} {
			f, e := kind.Join(h, y[0], y[1])
			if x.want == "!" {
				if e != api.ErrVerify || !zero(f) {
					t.Errorf("Join(%q) = %q, error %d, want none", y, f, e)
				}
			} else if e != api.OK || !kind.Same(f, frame(x.want)) {
				t.Errorf("Join(%q) = %q, error %d, want %q", y, f, e, x.want)
			}
		}
	}
}

// frame is locals and a stack, with a stroke between.
func frame(s string) kind.Frame {
	locals, stack, _ := strings.Cut(s, "|")
	return kind.Frame{Locals: words(locals), Stack: words(stack)}
}

// P9.2, of nil: no two types have a Join (7).
func TestJoinOfNil(t *testing.T) {
	if f, e := kind.Join(nil, frame("I LA;|"), frame("I LA;|")); e != api.OK || !kind.Same(f, frame("- -|")) {
		t.Errorf("Join = %q, error %d", f, e)
	}
	if f, e := kind.Join(nil, frame("I|I"), frame("I|I")); e != api.ErrVerify || !zero(f) {
		t.Errorf("Join = %q, error %d", f, e)
	}
}

// P9.2: among no classes but those that are there always.
func TestJoinAmongNone(t *testing.T) {
	h, _, _ := hier.New()
	if f, e := kind.Join(h, frame("LA; LExc;|"), frame("LA; LDivExc;|")); e != api.OK || !kind.Same(f, frame("- LExc;|")) {
		t.Errorf("Join = %q, error %d", f, e)
	}
}

// P9.4, by hand.
func TestSame(t *testing.T) {
	if !kind.Same(kind.Frame{}, kind.Frame{Locals: []string{}, Stack: []string{}}) {
		t.Error("none is not the same as none")
	}
	l := []string{"|", "-|", "|-", "I|", "|I", "I|I", "I B|", "B I|", "I -|", "- I|", "|I B", "|B I", "I B|I B", "I B|B I", "LA;|LA;", "LA;|LB;", "LB;|LA;", "N|N", "LA;|N"}
	for i, a := range l {
		for j, b := range l {
			if kind.Same(frame(a), frame(b)) != (i == j) {
				t.Errorf("Same(%q, %q) = %v", a, b, i != j)
			}
		}
	}
}

// P9.4, by hand.
func TestRefs(t *testing.T) {
	for _, x := range []struct {
		f             string
		locals, stack []int
	}{
		{"|", nil, nil},
		{"LA; I - S|", []int{0, 3}, nil},
		{"|I N B LZ;", nil, []int{1, 3}},
		{"I B - V|I B V -", nil, nil},
		{"S N LA; [I [[[[B LObject; LZ; [S|[B B N", []int{0, 1, 2, 3, 4, 5, 6, 7}, []int{0, 2}},
		{"[ L; LA [[[[[I [N [V NN LA;; A|", nil, nil},
	} {
		l, s := kind.Refs(frame(x.f))
		if !slices.Equal(l, x.locals) || !slices.Equal(s, x.stack) {
			t.Errorf("Refs(%q) = %v, %v", x.f, l, s)
		}
	}
}

// Rules 4 and 5 of the document: what is handed in is not changed, nor the memory behind it; answers share none.
func TestAnswersShareNoMemory(t *testing.T) {
	x := made(t)
	all := []string{"LA;", "LB;", "I", "I", "I", "spare", "spare", "spare"}
	kept := slices.Clone(all)
	in := kind.Frame{Locals: all[:2], Stack: all[2:5]}
	consts := []api.Const{{Kind: api.CMeth, S: "A", T: "m", U: "(I)V"}, {Kind: api.CInt}}
	keptConsts := slices.Clone(consts)
	for _, i := range []api.Ins{{Op: api.Nop}, {Op: api.Int, A: 1}, {Op: api.Null}, {Op: api.Dup}, {Op: api.Pop}, {Op: api.Add}, {Op: api.Lt}, {Op: api.Store, A: 1}, {Op: api.Load}, {Op: api.Call}} {
		for _, get := range []func() (kind.Frame, api.Errno){
			func() (kind.Frame, api.Errno) { return kind.Step(x, consts, "V", i, in) },
			func() (kind.Frame, api.Errno) { return kind.Join(x.Hier(), in, in) },
			func() (kind.Frame, api.Errno) { return kind.Start("A", api.Method{Sig: "(IS)V", Locals: 4}) },
		} {
			wanted, e := get()
			wanted = kind.Frame{Locals: slices.Clone(wanted.Locals), Stack: slices.Clone(wanted.Stack)}
			first, _ := get()
			spoil(first.Stack)
			if !slices.Equal(first.Locals, wanted.Locals) {
				t.Errorf("instruction %d: the locals share memory with the stack", i.Op)
			}
			spoil(first.Locals)
			if again, f := get(); f != e || !kind.Same(again, wanted) {
				t.Errorf("instruction %d: %q, then %q", i.Op, wanted, again)
			}
			if !slices.Equal(all, kept) || !slices.Equal(consts, keptConsts) {
				t.Fatalf("instruction %d: what was handed in is %q, %v", i.Op, all, consts)
			}
		}
	}
	l, s := kind.Refs(frame("LA; N|S [I"))
	_ = append(l[:1], 7)
	if !reflect.DeepEqual(s, []int{0, 1}) {
		t.Errorf("Refs share memory: %v", s)
	}
	locals := in.Locals
	kind.Refs(in)
	kind.Same(in, in)
	if !slices.Equal(all, kept) || len(locals) != 2 {
		t.Errorf("what was handed in is %q", all)
	}
}

// spoil writes into a list, and behind it.
func spoil(l []string) {
	for i := range l {
		l[i] = "spoilt"
	}
	l = l[:cap(l)]
	for i := range l {
		l[i] = "behind"
	}
}
