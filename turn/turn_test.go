package turn_test

import (
	"reflect"
	"slices"
	"strings"
	"testing"

	"hornbook/api"
	"hornbook/asm"
	"hornbook/pack"
	"hornbook/table"
	"hornbook/turn"
)

// tableOf answers a table of classes.
func tableOf(t testing.TB, l ...*asm.Class) *table.Table {
	t.Helper()
	classes, wrong := asm.Classes(l...)
	x, name, e := table.New(classes...)
	if wrong != "" || e != api.OK {
		t.Fatalf("what is %s? table.New = %q, error %d", wrong, name, e)
	}
	return x
}

// turnOf answers a turn of a class. Its moves are texts: a field and zero; a field, copy and the old one; a field, made and instructions.
func turnOf(t testing.TB, class string, moves ...string) api.Turn {
	t.Helper()
	c := asm.New(class, "Object")
	x := api.Turn{Class: class}
	for _, text := range moves {
		field, how, _ := strings.Cut(text, " ")
		kind, rest, _ := strings.Cut(how, " ")
		m := api.Move{Field: field}
		switch kind {
		case "zero":
		case "copy":
			m.Kind, m.From = api.Copy, rest
		case "made":
			m.Kind = api.Made
			for _, i := range strings.Split(rest, ", ") {
				m.Code = append(m.Code, c.Ins(i))
			}
		default:
			t.Fatalf("what is %q?", text)
		}
		x.Moves = append(x.Moves, m)
	}
	if c.Wrong != "" {
		t.Fatalf("what is %s?", c.Wrong)
	}
	x.Consts = c.Consts
	return x
}

// bundleOf answers a bundle of turns, that can be.
func bundleOf(t testing.TB, turns ...api.Turn) api.Bundle {
	t.Helper()
	x := api.Bundle{Turns: turns}
	for _, n := range turns {
		x.Classes = append(x.Classes, api.Class{Name: n.Class, Super: "Object"})
	}
	if e := pack.Right(x); e != api.OK {
		t.Fatalf("the bundle %v can not be: error %d", x, e)
	}
	return x
}

// checks holds what Check answers of a bundle of turns.
func checks(t *testing.T, old, now *table.Table, name string, e api.Errno, turns ...api.Turn) {
	t.Helper()
	if got, gotE := turn.Check(old, now, bundleOf(t, turns...)); got != name || gotE != e {
		t.Errorf("Check(%v) = %q, error %d, want %q, error %d", turns, got, gotE, name, e)
	}
}

// before answers the table that is to be another one.
func before(t testing.TB) *table.Table {
	t.Helper()
	return tableOf(t,
		asm.New("B", "A", "y I", "b LB;"),
		asm.New("A", "Object", "x I", "ok B", "s S", "a LA;"),
		asm.New("Gone", "Object", "g I"),
		asm.New("Same", "Exc", "u I", "v [I"),
	)
}

// after answers the other one.
func after(t testing.TB) *table.Table {
	t.Helper()
	return tableOf(t,
		asm.New("A", "Object", "ok B", "n I", "t B", "s S", "o LObject;", "x S", "p LA;", "l [I"),
		asm.New("B", "A", "m I", "y I", "c LB;", "q LA;"),
		asm.New("Fresh", "Object", "f I"),
		asm.New("Same", "Exc", "u I", "v [I"),
	)
}

// zero, copied and made answer steps.
func zero() turn.Step                  { return turn.Step{} }
func copied(from int) turn.Step        { return turn.Step{Kind: api.Copy, From: from} }
func made(code ...turn.Op) turn.Step   { return turn.Step{Kind: api.Made, Code: code} }
func op(o int) turn.Op                 { return turn.Op{Op: o} }
func number(n int64) turn.Op           { return turn.Op{Op: api.Int, N: n} }
func oldField(place int) turn.Op       { return turn.Op{Op: api.Old, A: place} }
func moves(l ...turn.Step) []turn.Step { return l }

// plans holds what Plan answers, as if a list of none were nil.
func plans(t *testing.T, old, now *table.Table, x api.Bundle, class string, want ...turn.Step) {
	t.Helper()
	got := turn.Plan(old, now, x, class)
	for i, s := range got {
		if len(s.Code) == 0 {
			got[i].Code = nil
		}
	}
	if len(got) != len(want) || len(got) > 0 && !reflect.DeepEqual(got, want) {
		t.Errorf("Plan(%v, %s) = %v, want %v", x.Turns, class, got, want)
	}
}

// does holds what Do answers, and that it changes nothing.
func does(t *testing.T, s turn.Step, fields []int64, fuel int, v int64, took int, e api.Errno) {
	t.Helper()
	code, words := slices.Clone(s.Code), slices.Clone(fields)
	if got, gotTook, gotE := turn.Do(s, fields, fuel); got != v || gotTook != took || gotE != e {
		t.Errorf("Do(%v, %d, %d) = %d, %d, error %d, want %d, %d, error %d", s, fields, fuel, got, gotTook, gotE, v, took, e)
	}
	if !slices.Equal(code, s.Code) || !slices.Equal(words, fields) {
		t.Errorf("Do(%v, %d, %d) changes what is handed in", code, words, fuel)
	}
}

// The chapter's example.
func TestExample(t *testing.T) {
	a := tableOf(t, asm.New("A", "Object", "x I"))
	x := bundleOf(t, turnOf(t, "A", "x made old A.x:I, int 1, add"))
	checks(t, a, a, "", api.OK, x.Turns...)
	plan := turn.Plan(a, a, x, "A")
	if len(plan) != 1 {
		t.Fatalf("Plan = %v", plan)
	}
	does(t, plan[0], []int64{4}, 3, 5, 3, api.OK)
	does(t, plan[0], []int64{4}, 2, 0, 2, api.ErrFuel)
}

// Of nil ErrNil, none; of a table that table.New did not make, as of one of no classes.
func TestNil(t *testing.T) {
	a := before(t)
	x := bundleOf(t, turnOf(t, "A", "x copy z"))
	for _, l := range [][2]*table.Table{{nil, nil}, {a, nil}, {nil, a}, {nil, {}}, {{}, nil}} {
		checks(t, l[0], l[1], "", api.ErrNil)
		checks(t, l[0], l[1], "", api.ErrNil, x.Turns...)
		plans(t, l[0], l[1], x, "A")
		if l := turn.Moves(l[0], l[1], x); len(l) > 0 {
			t.Errorf("Moves = %q", l)
		}
	}
	for _, l := range [][2]*table.Table{{{}, a}, {a, {}}, {{}, {}}, {tableOf(t), a}, {a, tableOf(t)}} {
		checks(t, l[0], l[1], "", api.OK)
		checks(t, l[0], l[1], "A", api.ErrNone, x.Turns...)
		plans(t, l[0], l[1], x, "A")
		if l := turn.Moves(l[0], l[1], x); len(l) > 0 {
			t.Errorf("Moves = %q", l)
		}
	}
}

// P21.1: classes that one of the tables does not have, fields that are not the class's own, and what an old field can stand for.
func TestCheck(t *testing.T) {
	old, now := before(t), after(t)
	checks(t, old, now, "", api.OK)
	for _, x := range []struct {
		class string
		e     api.Errno
		moves []string
	}{
		{"Gone", api.ErrNone, nil}, {"Fresh", api.ErrNone, nil}, {"Fresh", api.ErrNone, []string{"f zero"}}, {"Z", api.ErrNone, nil},
		{"A", api.OK, nil}, {"Same", api.OK, nil}, {"Exc", api.OK, nil}, {"Object", api.OK, nil},
		{"Exc", api.ErrNone, []string{"u zero"}}, {"Object", api.ErrNone, []string{"u zero"}},
		// The field: one of the other table, the class's own.
		{"A", api.ErrNone, []string{"z zero"}}, {"A", api.ErrNone, []string{"a zero"}}, {"A", api.ErrNone, []string{"m zero"}},
		{"B", api.ErrNone, []string{"n zero"}}, {"B", api.ErrNone, []string{"b zero"}}, {"B", api.OK, []string{"m zero", "c zero", "y zero", "q zero"}},
		{"A", api.OK, []string{"ok zero", "n zero", "t zero", "s zero", "o zero", "x zero", "p zero", "l zero"}},
		{"B", api.ErrNone, []string{"n copy x"}}, {"B", api.ErrNone, []string{"n made int 1"}},
		// The old field: of the class, or of one above.
		{"A", api.ErrNone, []string{"n copy z"}}, {"A", api.ErrNone, []string{"n copy n"}}, {"A", api.ErrNone, []string{"n copy y"}},
		{"A", api.ErrNone, []string{"n copy g"}}, {"B", api.ErrNone, []string{"m copy m"}}, {"A", api.ErrNone, []string{"z copy ok"}},
		{"A", api.OK, []string{"n copy x"}}, {"B", api.OK, []string{"m copy x"}}, {"B", api.OK, []string{"m copy y", "y copy y"}},
		// Its type: the old one's, for the new one's.
		{"A", api.ErrType, []string{"n copy ok"}}, {"A", api.ErrType, []string{"t copy x"}}, {"A", api.OK, []string{"t copy ok"}},
		{"A", api.ErrType, []string{"x copy x"}}, {"A", api.OK, []string{"x copy s"}}, {"A", api.ErrType, []string{"n copy s"}},
		{"A", api.OK, []string{"o copy s"}}, {"A", api.OK, []string{"o copy a"}}, {"A", api.ErrType, []string{"o copy x"}}, {"A", api.ErrType, []string{"o copy ok"}},
		{"A", api.OK, []string{"p copy a"}}, {"A", api.ErrType, []string{"p copy s"}}, {"A", api.ErrType, []string{"l copy s"}}, {"A", api.ErrType, []string{"l copy x"}},
		{"B", api.OK, []string{"q copy b"}}, {"B", api.OK, []string{"q copy a"}}, {"B", api.OK, []string{"c copy b"}}, {"B", api.ErrType, []string{"c copy a"}},
		{"Same", api.OK, []string{"v copy v"}}, {"Same", api.ErrType, []string{"v copy u"}}, {"Same", api.ErrType, []string{"u copy v"}},
	} {
		name := ""
		if x.e != api.OK {
			name = x.class
		}
		checks(t, old, now, name, x.e, turnOf(t, x.class, x.moves...))
	}
}

// P21.1: the first thing of all turns, and of all moves, is told.
func TestCheckTellsTheFirst(t *testing.T) {
	old, now := before(t), after(t)
	good, none, kind := turnOf(t, "A", "n zero"), turnOf(t, "B", "m zero", "z zero", "c copy a"), turnOf(t, "Same", "u copy u", "v copy u", "z zero")
	gone := turnOf(t, "Gone", "g zero")
	checks(t, old, now, "", api.OK, good)
	checks(t, old, now, "B", api.ErrNone, good, none, kind, gone)
	checks(t, old, now, "Same", api.ErrType, good, kind, none, gone)
	checks(t, old, now, "Gone", api.ErrNone, good, gone, kind, none)
	checks(t, old, now, "B", api.ErrType, turnOf(t, "B", "m zero", "c copy a", "z zero"), kind)
	checks(t, old, now, "A", api.ErrType, turnOf(t, "A", "n made true", "t copy z"))
	checks(t, old, now, "A", api.ErrNone, turnOf(t, "A", "t copy z", "n made true"))
}

// P21.1: what can stand for what is asked of the other table.
func TestCheckAsksTheOtherTable(t *testing.T) {
	old := tableOf(t, asm.New("A", "Object", "c LC;", "d LD;", "e LE;", "f [LE;"), asm.New("C", "Object"), asm.New("D", "C"), asm.New("E", "Object"))
	now := tableOf(t, asm.New("A", "Object", "c LC;", "d LD;", "o LObject;", "f [LD;"), asm.New("C", "D"), asm.New("D", "Object"))
	checks(t, old, now, "", api.OK, turnOf(t, "A", "d copy c", "o copy d"))
	checks(t, old, now, "A", api.ErrType, turnOf(t, "A", "c copy d"))
	// Things of a class that is gone, and arrays of these, stand for nothing.
	checks(t, old, now, "A", api.ErrType, turnOf(t, "A", "o copy e"))
	checks(t, old, now, "A", api.ErrType, turnOf(t, "A", "o copy f"))
	checks(t, old, now, "A", api.ErrType, turnOf(t, "A", "f copy f"))
}

// fit holds whether code fits a field of A, or of B.
func fit(t *testing.T, class, field, code string, want api.Errno) {
	t.Helper()
	name := ""
	if want != api.OK {
		name = class
	}
	checks(t, before(t), after(t), name, want, turnOf(t, class, field+" made "+code))
}

// P21.1: an Old is of the class, and of an old field of that name and type, a number or a truth.
func TestCheckOfOld(t *testing.T) {
	for code, want := range map[string]api.Errno{
		"old A.x:I": api.OK, "old A.x:B": api.ErrType, "old A.x:S": api.ErrType, "old B.x:I": api.ErrType, "old Z.x:I": api.ErrType,
		"old A.z:I": api.ErrType, "old A.n:I": api.ErrType, "old A.y:I": api.ErrType, "old A.ok:B": api.ErrType, "old A.ok:I": api.ErrType,
		"old A.s:S": api.ErrType, "old A.a:LA;": api.ErrType, "old A.ok:B, pop, old A.x:I": api.OK, "old A.s:S, pop, old A.x:I": api.ErrType,
		"old A.a:LA;, pop, int 1": api.ErrType, "old A.a:I": api.ErrType, "old A.s:I": api.ErrType,
	} {
		fit(t, "A", "n", code, want)
	}
	fit(t, "A", "t", "old A.ok:B", api.OK)
	fit(t, "A", "t", "old A.x:I", api.ErrType)
	fit(t, "A", "s", "old A.s:S", api.ErrType)
	fit(t, "A", "p", "old A.a:LA;", api.ErrType)
	fit(t, "A", "x", "old A.x:I", api.ErrType)
	fit(t, "A", "o", "old A.x:I", api.ErrType)
	// An old field of the class above is spoken of as the class's.
	fit(t, "B", "m", "old B.x:I", api.OK)
	fit(t, "B", "m", "old B.y:I", api.OK)
	fit(t, "B", "m", "old A.x:I", api.ErrType)
	fit(t, "B", "m", "old B.n:I", api.ErrType)
	fit(t, "B", "m", "old B.ok:B, not, pop, old B.y:I, old B.x:I, rem", api.OK)
	// Object's fields there are none.
	checks(t, before(t), after(t), "Exc", api.ErrNone, turnOf(t, "Exc", "n made old Exc.x:I"))
}

// P21.1: just one value is left, of the field's type.
func TestCheckOfWhatIsLeft(t *testing.T) {
	for _, code := range []string{"int 5", "int 5, nop", "nop, int 5", "true, pop, int 5", "int 5, dup, pop", "int 1, int 2, pop", "int 1, dup, add", "true, not, dup, eqb, pop, int 1"} {
		fit(t, "A", "n", code, api.OK)
		fit(t, "A", "t", code, api.ErrType)
	}
	for _, code := range []string{"true", "false", "int 1, dup, eqi", "false, dup, eqb, not", "int 1, int 2, lt"} {
		fit(t, "A", "t", code, api.OK)
		fit(t, "A", "n", code, api.ErrType)
	}
	for _, code := range []string{"nop", "int 1, int 2", "int 1, dup", "true, int 1", "int 1, true", "int 1, pop", "pop", "pop, int 1", "dup", "dup, int 1", "int 1, pop, pop, int 1", "int 1, add", "add"} {
		fit(t, "A", "n", code, api.ErrType)
		fit(t, "A", "t", code, api.ErrType)
	}
	for _, field := range []string{"s", "o", "p", "l"} {
		fit(t, "A", field, "int 0", api.ErrType)
		fit(t, "A", field, "false", api.ErrType)
	}
}

// effects are what the instructions take and leave, each type a letter, by chapter 9's words.
func effects() map[string][2]string {
	return map[string][2]string{
		"nop": {"", ""}, "int 3": {"", "I"}, "true": {"", "B"}, "false": {"", "B"}, "old A.x:I": {"", "I"}, "old A.ok:B": {"", "B"},
		"add": {"II", "I"}, "sub": {"II", "I"}, "mul": {"II", "I"}, "div": {"II", "I"}, "rem": {"II", "I"}, "neg": {"I", "I"},
		"not": {"B", "B"}, "lt": {"II", "B"}, "le": {"II", "B"}, "eqi": {"II", "B"}, "eqb": {"BB", "B"},
	}
}

// P21.1: what each instruction takes must be there, of just these types, and it leaves what it leaves.
func TestCheckOfEachInstruction(t *testing.T) {
	push := map[rune]string{'I': "int 7, ", 'B': "true, "}
	ask := map[byte]string{'I': ", neg", 'B': ", not"}
	other := map[byte]string{'I': ", not", 'B': ", neg"}
	for name, x := range effects() {
		for _, stack := range []string{"", "I", "B", "II", "IB", "BI", "BB", "BII", "IBB", "IBI", "BIB"} {
			code := ""
			for _, d := range stack {
				code += push[d]
			}
			left, ok := strings.CutSuffix(stack, x[0])
			left += x[1]
			if !ok {
				fit(t, "A", "n", code+name+", int 1, int 1, pop", api.ErrType)
				continue
			}
			if left == "" {
				fit(t, "A", "n", code+name+", int 1", api.OK)
				continue
			}
			top, bottom, pops := left[len(left)-1], left[0], strings.Repeat(", pop", len(left)-1)
			field := map[byte]string{'I': "n", 'B': "t"}[bottom]
			fit(t, "A", field, code+name+pops, api.OK)
			fit(t, "A", field, code+name+ask[top]+pops, api.OK)
			fit(t, "A", field, code+name+other[top]+pops, api.ErrType)
			fit(t, "A", map[byte]string{'I': "t", 'B': "n"}[bottom], code+name+pops, api.ErrType)
			fit(t, "A", field, code+name+pops+", int 1", api.ErrType)
		}
	}
}

// P21.1: there are MaxStack values at most.
func TestCheckOfManyValues(t *testing.T) {
	adds := func(n int) string { return strings.Repeat(", add", n) }
	for _, one := range []string{", int 1", ", old A.x:I", ", dup"} {
		fit(t, "A", "n", "int 1"+strings.Repeat(one, 15)+adds(15), api.OK)
		fit(t, "A", "n", "int 1"+strings.Repeat(one, 16)+adds(16), api.ErrType)
		fit(t, "A", "n", "int 1"+strings.Repeat(one, 16)+", pop"+adds(15), api.ErrType)
	}
	fit(t, "A", "t", "true"+strings.Repeat(", false", 15)+strings.Repeat(", eqb", 15), api.OK)
	fit(t, "A", "t", "true"+strings.Repeat(", false", 16)+strings.Repeat(", eqb", 16), api.ErrType)
	// However many instructions there are.
	fit(t, "A", "n", "int 1"+strings.Repeat(", dup, pop", 255), api.OK)
}

// P6 of the document: of bundles that can not be, too, each call ends; code whose constants are not there fits nothing.
func TestBundlesThatCanNotBe(t *testing.T) {
	old, now := before(t), after(t)
	odd := []api.Ins{{Op: api.Old, A: -1}, {Op: api.Old, A: 1}, {Op: api.Old, A: -1 << 63}, {Op: api.Old, A: 1<<63 - 1}, {Op: api.Old}, {Op: api.Load}, {Op: api.Ret}, {Op: api.Null}, {Op: -1}, {Op: api.Ops}}
	for _, i := range odd {
		x := api.Bundle{Turns: []api.Turn{{Class: "A", Consts: []api.Const{{Kind: api.CInt, N: 5}}, Moves: []api.Move{{Field: "n", Kind: api.Made, Code: []api.Ins{i}}}}}}
		if name, e := turn.Check(old, now, x); name != "A" || e != api.ErrType {
			t.Errorf("Check of %v = %q, error %d", i, name, e)
		}
		if plan := turn.Plan(old, now, x, "B"); len(plan) != 12 {
			t.Errorf("Plan of %v = %v", i, plan)
		} else {
			does(t, plan[1], []int64{1, 0, 0, 0, 4, 0}, 9, 0, 1, api.ErrTurn)
		}
		movesAre(t, old, now, x, "B", "A")
	}
	for _, a := range []int{-1 << 63, -1, 1, 1<<63 - 1} {
		x := api.Bundle{Turns: []api.Turn{{Class: "A", Moves: []api.Move{{Field: "n", Kind: api.Made, Code: []api.Ins{{Op: api.Int, A: a}}}, {Field: "n", Kind: 7}}}, {Class: "A"}, {}}}
		turn.Check(old, now, x)
		plans(t, old, now, x, "A", copied(1), made(number(0)), zero(), copied(2), zero(), zero(), zero(), zero())
	}
}

// P21.2, P21.4: without turns each field stays that is there, of the class whose own it is, with its name and type.
func TestPlanWithoutTurns(t *testing.T) {
	old, now := before(t), after(t)
	x := api.Bundle{}
	plans(t, old, now, x, "A", copied(1), zero(), zero(), copied(2), zero(), zero(), zero(), zero())
	plans(t, old, now, x, "B", copied(1), zero(), zero(), copied(2), zero(), zero(), zero(), zero(), zero(), copied(4), zero(), zero())
	plans(t, old, now, x, "Same", copied(0), copied(1))
	plans(t, old, old, x, "B", copied(0), copied(1), copied(2), copied(3), copied(4), copied(5))
	for _, class := range []string{"Gone", "Fresh", "Z", "", "Object", "Exc", "LA;"} {
		plans(t, old, now, x, class)
	}
	// Back again.
	plans(t, now, old, x, "B", zero(), copied(0), copied(3), zero(), copied(9), zero())
}

// P21.2: a field that another class of the two has, or had, is a new one.
func TestPlanOfFieldsOfOtherClasses(t *testing.T) {
	old := tableOf(t, asm.New("A", "Object", "x I"), asm.New("B", "A", "y I", "z I"), asm.New("C", "B", "w I"))
	now := tableOf(t, asm.New("A", "Object", "y I"), asm.New("B", "A", "x I", "w I"), asm.New("C", "B", "z I"))
	plans(t, old, now, api.Bundle{}, "C", zero(), zero(), zero(), zero())
	// A turn may say else, if the class had the field from above.
	x := bundleOf(t, turnOf(t, "B", "x copy x", "w copy y"), turnOf(t, "C", "z copy z"))
	checks(t, old, now, "", api.OK, x.Turns...)
	plans(t, old, now, x, "A", zero())
	plans(t, old, now, x, "B", zero(), copied(0), copied(1))
	plans(t, old, now, x, "C", zero(), copied(0), copied(1), copied(2))
}

// P21.2: moves go ahead of what stays, each of the class whose own the field is.
func TestPlan(t *testing.T) {
	old, now := before(t), after(t)
	x := bundleOf(t,
		turnOf(t, "B", "y zero", "m made old B.y:I, old B.x:I, int -9, mul, sub", "q copy a"),
		turnOf(t, "A", "n copy x", "ok made old A.ok:B, not", "t copy ok", "s zero", "o copy s"),
	)
	checks(t, old, now, "", api.OK, x.Turns...)
	not := made(oldField(1), op(api.Not))
	sum := made(oldField(4), oldField(0), number(-9), op(api.Mul), op(api.Sub))
	plans(t, old, now, x, "A", not, copied(0), copied(1), zero(), copied(2), zero(), zero(), zero())
	plans(t, old, now, x, "B", not, copied(0), copied(1), zero(), copied(2), zero(), zero(), zero(), sum, zero(), zero(), copied(3))
	plans(t, old, now, x, "Same", copied(0), copied(1))
	plans(t, old, now, x, "Object")
	plans(t, old, now, x, "Gone")
	// Constants are the turn's own, whatever others have.
	y := bundleOf(t, turnOf(t, "Same", "u made int 3, pop, int 4"), turnOf(t, "A", "n made int 5, int 3, sub", "t made true"))
	plans(t, old, now, y, "Same", made(number(3), op(api.Pop), number(4)), copied(1))
	plans(t, old, now, y, "A", copied(1), made(number(5), number(3), op(api.Sub)), made(op(api.True)), copied(2), zero(), zero(), zero(), zero())
	// A turn without moves changes nothing.
	plans(t, old, now, bundleOf(t, turnOf(t, "Same"), turnOf(t, "B")), "Same", copied(0), copied(1))
}

// P21.2: an old field's place is the class's own; where it stood below another class, it did not have it, and may have had another one of that name.
func TestPlanOfAnotherHierarchy(t *testing.T) {
	old := tableOf(t, asm.New("A", "Object", "x I", "y I"), asm.New("B", "Object", "b I", "x S"), asm.New("C", "A", "c I"))
	now := tableOf(t, asm.New("A", "Object", "x I", "y I"), asm.New("B", "A", "b I"), asm.New("C", "B", "c I"))
	x := bundleOf(t, turnOf(t, "A", "x copy y", "y made old A.x:I"))
	checks(t, old, now, "", api.OK, x.Turns...)
	for _, s := range []struct {
		x     api.Bundle
		class string
		words []int64
		want  []int64
	}{
		{x, "C", []int64{7, 8, 9}, []int64{8, 7, 0, 9}},
		{api.Bundle{}, "C", []int64{7, 8, 9}, []int64{7, 8, 0, 9}},
		{api.Bundle{}, "B", []int64{7, 8}, []int64{0, 0, 7}},
		{bundleOf(t, turnOf(t, "A", "x copy y", "y copy x")), "B", []int64{7, 8}, []int64{0, 0, 7}},
	} {
		plan := turn.Plan(old, now, s.x, s.class)
		if len(plan) != len(s.want) {
			t.Fatalf("Plan(%v, %s) = %v", s.x.Turns, s.class, plan)
		}
		for i, want := range s.want {
			if v, _, e := turn.Do(plan[i], s.words, 9); v != want || e != api.OK {
				t.Errorf("Plan(%v, %s) makes %d of %d at %d, error %d, want %d", s.x.Turns, s.class, v, s.words, i, e, want)
			}
		}
	}
	does(t, turn.Plan(old, now, x, "B")[1], []int64{7, 8}, 9, 0, 1, api.ErrTurn)
}

// movesAre holds what Moves answers.
func movesAre(t *testing.T, old, now *table.Table, x api.Bundle, want ...string) {
	t.Helper()
	if got := turn.Moves(old, now, x); !slices.Equal(got, want) {
		t.Errorf("Moves(%v) = %q, want %q", x.Turns, got, want)
	}
}

// P21.2: classes with another Layout, and those that are, or are below, a class of a turn.
func TestMoves(t *testing.T) {
	old, now := before(t), after(t)
	movesAre(t, old, now, api.Bundle{}, "B", "A")
	movesAre(t, now, old, api.Bundle{}, "A", "B")
	movesAre(t, old, old, api.Bundle{})
	movesAre(t, old, now, bundleOf(t, turnOf(t, "Same")), "B", "A", "Same")
	movesAre(t, old, now, bundleOf(t, turnOf(t, "Gone"), turnOf(t, "Fresh"), turnOf(t, "Z")), "B", "A")
	movesAre(t, old, old, bundleOf(t, turnOf(t, "A")), "B", "A")
	movesAre(t, old, old, bundleOf(t, turnOf(t, "B", "y zero")), "B")
	movesAre(t, old, old, bundleOf(t, turnOf(t, "Same"), turnOf(t, "B")), "B", "Same")
	// Classes that are there always are classes, too, and stand ahead.
	movesAre(t, old, now, bundleOf(t, turnOf(t, "Exc")), "Exc", "NullExc", "CastExc", "IndexExc", "DivExc", "StackExc", "MemExc", "LockExc", "B", "A", "Same")
	movesAre(t, old, old, bundleOf(t, turnOf(t, "MemExc")), "MemExc")
	movesAre(t, old, old, bundleOf(t, turnOf(t, "Object")), old.Names()...)
	// Which one is below which is asked of the other table, as it is whose own a field is.
	beside, below := tableOf(t, asm.New("A", "Object", "x I"), asm.New("B", "Object", "x I")), tableOf(t, asm.New("A", "Object", "x I"), asm.New("B", "A"))
	movesAre(t, beside, below, bundleOf(t, turnOf(t, "A")), "A", "B")
	movesAre(t, below, beside, bundleOf(t, turnOf(t, "A")), "A")
	// Another field above is another Layout below, and no turn is needed.
	more := tableOf(t, asm.New("B", "A", "y I", "b LB;"), asm.New("A", "Object", "x I", "ok B", "s S", "a LA;", "z I"), asm.New("Same", "Exc", "u I", "v [I"))
	movesAre(t, old, more, api.Bundle{}, "B", "A")
}

// P21.3: zero, and copies, take no fuel.
func TestDoOfZeroAndCopies(t *testing.T) {
	fields := []int64{4, -5, 1 << 62}
	for _, fuel := range []int{-1 << 63, -1, 0, 1, 1<<63 - 1} {
		does(t, zero(), fields, fuel, 0, 0, api.OK)
		does(t, zero(), nil, fuel, 0, 0, api.OK)
		for i, v := range fields {
			does(t, copied(i), fields, fuel, v, 0, api.OK)
		}
		for _, i := range []int{-1 << 63, -1, 3, 1<<63 - 1} {
			does(t, copied(i), fields, fuel, 0, 0, api.OK)
		}
		does(t, copied(0), nil, fuel, 0, 0, api.OK)
		// What no sentence names is zero.
		does(t, turn.Step{Kind: 3, From: 1, Code: []turn.Op{number(5)}}, fields, fuel, 0, 0, api.OK)
		does(t, turn.Step{Kind: -1, From: 1}, fields, fuel, 0, 0, api.OK)
	}
	// Just what is of the kind plays a part.
	does(t, turn.Step{From: 1, Code: []turn.Op{number(5)}}, fields, 9, 0, 0, api.OK)
	does(t, turn.Step{Kind: api.Copy, From: 1, Code: []turn.Op{number(5)}}, fields, 9, -5, 0, api.OK)
	does(t, turn.Step{Kind: api.Made, From: 1, Code: []turn.Op{number(5)}}, fields, 9, 5, 1, api.OK)
}

// P21.3: what each instruction makes, with numbers as of chapter 14.
func TestDoOfEachInstruction(t *testing.T) {
	const least, most = -1 << 63, 1<<63 - 1
	for _, x := range []struct {
		op, a, b, want int
	}{
		{api.Add, 2, 3, 5}, {api.Add, most, 1, least}, {api.Sub, 2, 3, -1}, {api.Sub, least, 1, most}, {api.Mul, -2, 3, -6}, {api.Mul, 1 << 62, 4, 0},
		{api.Div, 7, 2, 3}, {api.Div, -7, 2, -3}, {api.Div, least, -1, least}, {api.Rem, -7, 2, -1}, {api.Rem, 7, -2, 1}, {api.Rem, least, -1, 0},
		{api.Lt, 1, 2, 1}, {api.Lt, 2, 2, 0}, {api.Lt, 3, 2, 0}, {api.Le, 2, 2, 1}, {api.Le, 3, 2, 0}, {api.EqI, 4, 4, 1}, {api.EqI, 4, -4, 0},
	} {
		does(t, made(number(int64(x.a)), number(int64(x.b)), op(x.op)), nil, 3, int64(x.want), 3, api.OK)
		does(t, made(oldField(1), oldField(0), op(x.op)), []int64{int64(x.b), int64(x.a)}, 3, int64(x.want), 3, api.OK)
	}
	does(t, made(number(5)), nil, 1, 5, 1, api.OK)
	does(t, made(op(api.True)), nil, 1, 1, 1, api.OK)
	does(t, made(op(api.False)), nil, 1, 0, 1, api.OK)
	does(t, made(oldField(0)), []int64{-3}, 1, -3, 1, api.OK)
	does(t, made(number(5), op(api.Neg)), nil, 2, -5, 2, api.OK)
	does(t, made(number(least), op(api.Neg)), nil, 2, least, 2, api.OK)
	does(t, made(op(api.True), op(api.Not)), nil, 2, 0, 2, api.OK)
	does(t, made(op(api.False), op(api.Not)), nil, 2, 1, 2, api.OK)
	does(t, made(op(api.False), op(api.True), op(api.EqB)), nil, 3, 0, 3, api.OK)
	does(t, made(op(api.False), op(api.False), op(api.EqB)), nil, 3, 1, 3, api.OK)
	does(t, made(op(api.Nop), number(5), op(api.Nop)), nil, 3, 5, 3, api.OK)
	does(t, made(number(5), number(6), op(api.Pop)), nil, 3, 5, 3, api.OK)
	does(t, made(number(5), op(api.Dup), op(api.Mul)), nil, 3, 25, 3, api.OK)
	// What is put on a stack that was cut leaves what was there before.
	does(t, made(number(1), number(2), op(api.Pop), number(3), op(api.Sub), op(api.Dup), op(api.Pop), number(9), op(api.Add)), nil, 9, 7, 9, api.OK)
}

// P21.3: how much it takes, and where it stops: ahead of an instruction without fuel, or at one that can not be.
func TestDoOfFuelAndFaults(t *testing.T) {
	code := []turn.Op{number(8), oldField(0), op(api.Div), number(1), op(api.Add)}
	for _, fuel := range []int{-1 << 63, -1, 0} {
		does(t, made(code...), []int64{2}, fuel, 0, 0, api.ErrFuel)
	}
	for fuel := range 5 {
		does(t, made(code...), []int64{2}, fuel, 0, fuel, api.ErrFuel)
	}
	for _, fuel := range []int{5, 6, 1000, 1<<63 - 1} {
		does(t, made(code...), []int64{2}, fuel, 5, 5, api.OK)
	}
	for _, o := range []int{api.Div, api.Rem} {
		code[2] = op(o)
		for fuel := range 3 {
			does(t, made(code...), []int64{0}, fuel, 0, fuel, api.ErrFuel)
		}
		for fuel := 3; fuel < 7; fuel++ {
			does(t, made(code...), []int64{0}, fuel, 0, 3, api.ErrTurn)
		}
	}
	// An old field that there is not.
	for _, place := range []int{-1 << 63, -1, 1, 2, 1<<63 - 1} {
		does(t, made(number(1), oldField(place), op(api.Pop)), []int64{2}, 1, 0, 1, api.ErrFuel)
		does(t, made(number(1), oldField(place), op(api.Pop)), []int64{2}, 9, 0, 2, api.ErrTurn)
	}
	does(t, made(oldField(0)), nil, 9, 0, 1, api.ErrTurn)
}

// P21.3: code that does not fit is ErrTurn, where it does not, if there is fuel so far.
func TestDoOfCodeThatDoesNotFit(t *testing.T) {
	fields := []int64{1, 0}
	for _, x := range []struct {
		took int
		code []turn.Op
	}{
		// What it takes is not there.
		{1, []turn.Op{op(api.Pop), number(1)}}, {1, []turn.Op{op(api.Dup)}}, {1, []turn.Op{op(api.Neg)}}, {1, []turn.Op{op(api.Not)}},
		{2, []turn.Op{number(1), op(api.Add)}}, {1, []turn.Op{op(api.Add)}}, {2, []turn.Op{op(api.True), op(api.EqB)}}, {3, []turn.Op{number(1), op(api.Pop), op(api.Pop)}},
		// It is of other types.
		{2, []turn.Op{op(api.True), op(api.Neg)}}, {2, []turn.Op{number(1), op(api.Not)}}, {3, []turn.Op{op(api.True), number(1), op(api.Add)}}, {3, []turn.Op{number(1), op(api.False), op(api.Lt)}},
		{3, []turn.Op{number(1), number(1), op(api.EqB)}}, {3, []turn.Op{op(api.True), op(api.True), op(api.EqI)}}, {3, []turn.Op{oldField(0), op(api.Not), op(api.Neg)}},
		{4, []turn.Op{number(1), number(1), op(api.Le), op(api.Neg)}}, {3, []turn.Op{oldField(0), op(api.True), op(api.Div)}},
		// An old field can not be of two types.
		{4, []turn.Op{oldField(0), op(api.Neg), oldField(0), op(api.Not)}}, {5, []turn.Op{oldField(1), op(api.Dup), op(api.Not), op(api.Pop), op(api.Neg)}},
		{3, []turn.Op{oldField(0), number(1), op(api.EqB)}},
		// It leaves none, or more than one.
		{0, nil}, {1, []turn.Op{op(api.Nop)}}, {2, []turn.Op{number(1), number(2)}}, {2, []turn.Op{number(1), op(api.Pop)}}, {2, []turn.Op{oldField(0), op(api.Dup)}},
		// It has an instruction that no move has.
		{1, []turn.Op{op(api.Null)}}, {1, []turn.Op{op(api.Str)}}, {1, []turn.Op{op(api.Read)}}, {2, []turn.Op{number(1), op(api.Ret)}}, {2, []turn.Op{number(1), op(api.Jump)}},
		{3, []turn.Op{number(1), number(1), op(api.EqR)}}, {1, []turn.Op{op(api.Load)}}, {1, []turn.Op{op(-1)}}, {1, []turn.Op{op(api.Ops)}}, {2, []turn.Op{number(1), op(api.Print)}},
	} {
		does(t, made(x.code...), fields, x.took, 0, x.took, api.ErrTurn)
		does(t, made(x.code...), fields, 99, 0, x.took, api.ErrTurn)
		for fuel := range x.took {
			does(t, made(x.code...), fields, fuel, 0, fuel, api.ErrFuel)
		}
	}
	// Two old fields may be of two types.
	does(t, made(oldField(0), op(api.Neg), op(api.Pop), oldField(1), op(api.Not)), fields, 5, 1, 5, api.OK)
}

// P21.3: there are MaxStack values at most.
func TestDoOfManyValues(t *testing.T) {
	var code []turn.Op
	for i := range api.MaxStack {
		code = append(code, number(int64(i)))
	}
	adds := slices.Repeat([]turn.Op{op(api.Add)}, api.MaxStack-1)
	does(t, made(append(slices.Clone(code), adds...)...), nil, 99, 120, 31, api.OK)
	for _, o := range []turn.Op{number(16), op(api.Dup), op(api.True), oldField(0)} {
		does(t, made(append(slices.Clone(code), o, op(api.Pop))...), []int64{1}, 99, 0, 17, api.ErrTurn)
	}
}

// Rules 4 and 5 of the document: what is written into an answer, or into what was handed in, is seen by no later answer.
func TestAnswersOfTheirOwn(t *testing.T) {
	old, now := before(t), after(t)
	x := bundleOf(t, turnOf(t, "A", "n made int 5, nop", "ok made true, not"))
	want := moves(made(op(api.True), op(api.Not)), made(number(5), op(api.Nop)), zero(), copied(2), zero(), zero(), zero(), zero())
	got := turn.Plan(old, now, x, "A")
	for _, s := range got {
		clear(s.Code)
		_ = append(s.Code, number(77))
	}
	for i, s := range got {
		for j, o := range s.Code {
			if o != (turn.Op{}) {
				t.Errorf("the step %d has %v at %d behind what was written into others", i, o, j)
			}
		}
	}
	clear(got)
	plans(t, old, now, x, "A", want...)
	l := turn.Moves(old, now, x)
	clear(l)
	movesAre(t, old, now, x, "B", "A")
	kept := turn.Plan(old, now, x, "A")
	clear(x.Turns[0].Consts)
	for _, m := range x.Turns[0].Moves {
		clear(m.Code)
	}
	clear(x.Turns[0].Moves)
	clear(x.Turns)
	if !reflect.DeepEqual(kept, want) {
		t.Errorf("Plan is %v behind what was written into the bundle, want %v", kept, want)
	}
}
