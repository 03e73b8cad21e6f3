package shadow_test

import (
	"math"
	"reflect"
	"slices"
	"testing"

	"hornbook/api"
	"hornbook/asm"
	"hornbook/collect"
	"hornbook/heap"
	"hornbook/link"
	"hornbook/shadow"
	"hornbook/table"
	"hornbook/turn"
)

// world is a heap, and the program that its things are to be of.
type world struct {
	*heap.Heap
	t testing.TB
	p *link.Prog
}

// tableOf answers a table of classes.
func tableOf(t testing.TB, l ...*asm.Class) *table.Table {
	t.Helper()
	classes, wrong := asm.Classes(l...)
	x, name, e := table.New(classes...)
	if wrong != "" || e != api.OK {
		t.Fatalf("what is %s? table.New = %q, error %d", wrong, name, e)
	}
	return x
}

// progOf answers a program of a table, with types of its own.
func progOf(t testing.TB, x *table.Table) *link.Prog {
	t.Helper()
	p, e := link.New(x, link.NewTypes())
	if e != api.OK {
		t.Fatalf("link.New: error %d", e)
	}
	return p
}

// heapOf answers a heap of so many words.
func heapOf(t testing.TB, words int) *heap.Heap {
	t.Helper()
	h, e := heap.New(words)
	if e != api.OK {
		t.Fatalf("heap.New(%d): error %d", words, e)
	}
	return h
}

// now answers the table of B below A, C without fields, and D all of whose fields are of things.
func now(t testing.TB) *table.Table {
	t.Helper()
	return tableOf(t, asm.New("B", "A", "n I", "s S"), asm.New("A", "Object", "next LA;", "x I", "ok B"), asm.New("C", "DivExc"), asm.New("D", "C", "a LA;", "o LObject;", "l [[I"))
}

// empty answers an empty heap, and the program of now's classes.
func empty(t testing.TB, words int) world {
	t.Helper()
	return world{heapOf(t, words), t, progOf(t, now(t))}
}

// add makes a thing of a type with these words.
func (w world) add(d string, words ...int64) int64 {
	w.t.Helper()
	at, e := w.Thing(w.p.Id(d), len(words))
	if e != api.OK {
		w.t.Fatalf("Thing of %q: error %d", d, e)
	}
	w.set(at, words...)
	return at
}

// set writes a thing's words.
func (w world) set(at int64, words ...int64) {
	w.t.Helper()
	for i, v := range words {
		if e := w.Set(at, i, v); e != api.OK {
			w.t.Fatalf("Set(%d, %d): error %d", at, i, e)
		}
	}
}

// text makes a text.
func (w world) text(s string) int64 {
	w.t.Helper()
	at, e := w.Text(w.p.Id("S"), s)
	if e != api.OK {
		w.t.Fatalf("Text(%q): error %d", s, e)
	}
	return at
}

// first answers the first word of a thing of a type, with so many words behind it.
func (w world) first(d string, size int64) int64 {
	return int64(w.p.Id(d))*65536 + size
}

// sends answers of all things where they were sent.
func sends(h *heap.Heap) []int64 {
	var l []int64
	for _, at := range h.All() {
		to, _ := h.Sent(at)
		l = append(l, to)
	}
	return l
}

// ran is what Make answers.
type ran struct {
	g    *heap.Heap
	now  []int64
	took int
	e    api.Errno
}

// run answers what Make does, and holds that it changes nothing of what it is given.
func (w world) run(plans []shadow.Plan, fuel int, roots ...int64) ran {
	w.t.Helper()
	raw, sent, asked := w.Raw(), sends(w.Heap), slices.Clone(roots)
	var given []shadow.Plan
	for _, x := range plans {
		given = append(given, shadow.Plan{Class: x.Class, Steps: slices.Clone(x.Steps)})
	}
	g, now, took, e := shadow.Make(w.Heap, w.p, plans, fuel, roots...)
	if !slices.Equal(w.Raw(), raw) || !slices.Equal(sends(w.Heap), sent) || !slices.Equal(roots, asked) || !reflect.DeepEqual(plans, given) && len(plans) > 0 {
		w.t.Errorf("Make of %d changes something", asked)
	}
	if e != api.OK && (g != nil || len(now) > 0) {
		w.t.Errorf("Make of %d: error %d beside a heap, or %d", roots, e, now)
	}
	return ran{g, now, took, e}
}

// refused holds that Make answers an error, and how much it took.
func (w world) refused(plans []shadow.Plan, fuel int, took int, e api.Errno, roots ...int64) {
	w.t.Helper()
	if x := w.run(plans, fuel, roots...); x.e != e || x.took != took {
		w.t.Errorf("Make of %d with %d: took %d, error %d, want %d, error %d", roots, fuel, x.took, x.e, took, e)
	}
}

// makes holds that Make answers a heap with these words, where the roots are, and how much it took.
func (w world) makes(plans []shadow.Plan, fuel int, took int, roots, now []int64, raw ...int64) {
	w.t.Helper()
	x := w.run(plans, fuel, roots...)
	if x.e != api.OK || x.took != took || !slices.Equal(x.now, now) {
		w.t.Errorf("Make of %d with %d: now %d, took %d, error %d, want %d, %d", roots, fuel, x.now, x.took, x.e, now, took)
		return
	}
	if !slices.Equal(x.g.Raw(), raw) || x.g.Cap() != w.Cap() {
		w.t.Errorf("Make of %d: Raw %d of %d, want %d of %d", roots, x.g.Raw(), x.g.Cap(), raw, w.Cap())
	}
}

// planOf, zero, copied, made answer how things come to be.
func planOf(class string, l ...turn.Step) shadow.Plan { return shadow.Plan{Class: class, Steps: l} }
func zero() turn.Step                                 { return turn.Step{} }
func copied(from int) turn.Step                       { return turn.Step{Kind: api.Copy, From: from} }
func made(code ...turn.Op) turn.Step                  { return turn.Step{Kind: api.Made, Code: code} }
func op(o int) turn.Op                                { return turn.Op{Op: o} }
func number(n int64) turn.Op                          { return turn.Op{Op: api.Int, N: n} }
func oldField(place int) turn.Op                      { return turn.Op{Op: api.Old, A: place} }

// The chapter's example.
func TestExample(t *testing.T) {
	w := world{heapOf(t, 16), t, progOf(t, tableOf(t, asm.New("A", "Object", "x I", "y I")))}
	at := w.add("LA;", 4)
	l := []shadow.Plan{planOf("A", copied(0), made(oldField(0), number(1), op(api.Add)))}
	w.makes(l, 3, 3, []int64{at}, []int64{1}, w.first("LA;", 2), 4, 5)
}

// P22.1, P22.2: of nil; of what the layers' New did not make.
func TestNil(t *testing.T) {
	w := empty(t, 16)
	for _, x := range []world{{nil, t, nil}, {nil, t, w.p}, {w.Heap, t, nil}} {
		x.refused(nil, 9, 0, api.ErrNil)
		x.refused([]shadow.Plan{planOf("A")}, 9, 0, api.ErrNil, 1)
	}
	a := now(t)
	for _, l := range [][2]*table.Table{{nil, nil}, {nil, a}, {a, nil}, {{}, a}, {a, {}}, {{}, {}}} {
		if got := shadow.Plans(l[0], l[1], api.Bundle{Turns: []api.Turn{{Class: "A"}}}); len(got) > 0 {
			t.Errorf("Plans = %v", got)
		}
	}
	none := world{&heap.Heap{}, t, w.p}
	none.makes(nil, 0, 0, []int64{0, 0}, []int64{0, 0})
	none.refused(nil, 0, 0, api.ErrRange, 1)
	w.add("LC;")
	bare := world{w.Heap, t, &link.Prog{}}
	bare.makes(nil, 0, 0, []int64{0}, []int64{0})
	bare.refused(nil, 0, 0, api.ErrForm, 1)
}

// P22.1: of each class whose things come to be others, in order, its plan.
func TestPlans(t *testing.T) {
	old := tableOf(t, asm.New("B", "A", "y I"), asm.New("E", "Object", "e I"), asm.New("A", "Object", "x I", "z B"), asm.New("F", "E"), asm.New("Gone", "A"))
	now := tableOf(t, asm.New("A", "Object", "z B", "w I", "x I"), asm.New("B", "A", "y I", "s S"), asm.New("F", "E"), asm.New("E", "Object", "e I"), asm.New("Fresh", "A"))
	turns := []api.Turn{
		{Class: "F"},
		{Class: "A", Consts: []api.Const{{Kind: api.CField, S: "A", T: "x", U: "I"}, {Kind: api.CInt, N: 3}}, Moves: []api.Move{{Field: "w", Kind: api.Made, Code: []api.Ins{{Op: api.Old}, {Op: api.Int, A: 1}, {Op: api.Sub}}}, {Field: "x"}}},
	}
	w := made(oldField(0), number(3), op(api.Sub))
	for _, x := range []struct {
		turns []api.Turn
		want  []shadow.Plan
	}{
		{nil, []shadow.Plan{planOf("B", copied(1), zero(), copied(0), copied(2), zero()), planOf("A", copied(1), zero(), copied(0))}},
		{turns[:1], []shadow.Plan{planOf("B", copied(1), zero(), copied(0), copied(2), zero()), planOf("A", copied(1), zero(), copied(0)), planOf("F", copied(0))}},
		{turns, []shadow.Plan{planOf("B", copied(1), w, zero(), copied(2), zero()), planOf("A", copied(1), w, zero()), planOf("F", copied(0))}},
	} {
		got := shadow.Plans(old, now, api.Bundle{Turns: x.turns})
		if !reflect.DeepEqual(got, x.want) {
			t.Errorf("Plans of %v = %v, want %v", x.turns, got, x.want)
		}
	}
	if got := shadow.Plans(old, old, api.Bundle{}); len(got) > 0 {
		t.Errorf("Plans of a table and itself = %v", got)
	}
	// What is written into one answer is seen by no later one.
	again := shadow.Plans(old, now, api.Bundle{Turns: turns})
	for _, x := range shadow.Plans(old, now, api.Bundle{Turns: turns}) {
		for _, s := range x.Steps {
			clear(s.Code)
		}
		clear(x.Steps)
	}
	if got := shadow.Plans(old, now, api.Bundle{Turns: turns}); !reflect.DeepEqual(got, again) {
		t.Errorf("Plans are %v behind what was written into them, want %v", got, again)
	}
}

// P22.2: roots are come to first, each once, in order; then, thing by thing, what those speak of.
func TestOrder(t *testing.T) {
	w := empty(t, 100)
	s := w.text("hi")
	a := w.add("LA;", 0, 5, 1)
	b := w.add("LB;", a, 6, 0, 7, s)
	c := w.add("LC;")
	l := w.add("[LObject;", 3, c, b, 0)
	d := w.add("LD;", b, l, 0)
	w.set(a, b)
	n := w.add("[I", 2, a, b)
	w.add("LC;")
	// The old addresses are 1, 4, 8, 14, 15, 20, 24.
	w.makes(nil, 0, 0, nil, nil)
	w.makes(nil, 0, 0, []int64{0, 0}, []int64{0, 0})
	w.makes(nil, 0, 0, []int64{s}, []int64{1}, w.first("S", 2), 2, 26984)
	w.makes(nil, 0, 0, []int64{n, c, 0, n}, []int64{1, 5, 0, 1}, w.first("[I", 3), 2, a, b, w.first("LC;", 0))
	w.makes(nil, 0, 0, []int64{d, 0, c, d}, []int64{1, 0, 5, 1},
		w.first("LD;", 3), 6, 12, 0, w.first("LC;", 0), w.first("LB;", 5), 17, 6, 0, 7, 21, w.first("[LObject;", 4), 3, 5, 6, 0, w.first("LA;", 3), 6, 5, 1, w.first("S", 2), 2, 26984)
	w.makes(nil, 0, 0, []int64{a}, []int64{1}, w.first("LA;", 3), 5, 5, 1, w.first("LB;", 5), 1, 6, 0, 7, 11, w.first("S", 2), 2, 26984)
}

// P22.2: a thing of a class that has a plan comes to be by it, of its old words; the Shape says how many words it has.
func TestPlansAreDone(t *testing.T) {
	w := empty(t, 60)
	b := w.add("LB;", 1)
	a := w.add("LA;", 40, 41)
	w.set(a, 8, a)
	d := w.add("LD;", b, a, 0, 99)
	l := w.add("[LA;", 2, a, a)
	same := made(oldField(0), number(2), op(api.Mul))
	plans := []shadow.Plan{
		planOf("A", copied(1), same, made(op(api.True))),
		planOf("D", zero(), copied(1), copied(7)),
		planOf("B", zero(), made(number(9)), zero(), copied(0), zero()),
		planOf("C", zero()),
		planOf("Object"),
	}
	// B has one word and is to have five; A has two, and three; D has four, and three.
	w.makes(plans, 99, 4, []int64{a}, []int64{1}, w.first("LA;", 3), 1, 16, 1)
	w.makes(plans, 99, 1, []int64{b}, []int64{1}, w.first("LB;", 5), 0, 9, 0, 1, 0)
	w.makes(plans, 99, 4, []int64{d}, []int64{1}, w.first("LD;", 3), 0, 5, 0, w.first("LA;", 3), 5, 16, 1)
	w.makes(plans, 99, 5, []int64{l, b, a}, []int64{1, 5, 11}, w.first("[LA;", 3), 2, 11, 11, w.first("LB;", 5), 0, 9, 0, 1, 0, w.first("LA;", 3), 11, 16, 1)
	// Of two of one class it is the first one.
	first := append([]shadow.Plan{planOf("B", zero(), zero(), zero(), zero(), zero())}, plans...)
	w.makes(first, 0, 0, []int64{b}, []int64{1}, w.first("LB;", 5), 0, 0, 0, 0, 0)
	// A plan is of a class alone: of no array, of no text.
	odd := []shadow.Plan{planOf("", zero()), planOf("[LA;", zero()), planOf("S", zero()), planOf("LA;", zero()), plans[0]}
	s := w.text("a")
	w.makes(odd, 9, 4, []int64{l, s}, []int64{1, 5}, w.first("[LA;", 3), 2, 8, 8, w.first("S", 2), 1, 97, w.first("LA;", 3), 8, 16, 1)
}

// P22.2: a plan is of just that class, not of those below it.
func TestPlansOfClassesAlone(t *testing.T) {
	w := empty(t, 30)
	b := w.add("LB;", 0, 1, 1, 2, 0)
	a := w.add("LA;", b, 1, 1)
	w.makes([]shadow.Plan{planOf("A", copied(0), zero(), zero())}, 0, 0, []int64{a}, []int64{1}, w.first("LA;", 3), 5, 0, 0, w.first("LB;", 5), 0, 1, 1, 2, 0)
	w.makes([]shadow.Plan{planOf("B", zero(), zero(), zero(), zero(), zero())}, 0, 0, []int64{a}, []int64{1}, w.first("LA;", 3), 5, 1, 1, w.first("LB;", 5), 0, 0, 0, 0, 0)
}

// P22.2: what a thing speaks of is what it speaks of when it has come to be: what it speaks of no more is not come to, what its steps tell is.
func TestNewWordsAreComeTo(t *testing.T) {
	w := empty(t, 40)
	c := w.add("LC;")
	a := w.add("LA;", 0, 1, 0)
	b := w.add("LA;", a, a, 0)
	w.makes([]shadow.Plan{planOf("A", zero(), copied(1), zero())}, 0, 0, []int64{b}, []int64{1}, w.first("LA;", 3), 0, a, 0)
	// The number of the old field is an address now, that of the thing a and, of that, of the thing c.
	w.makes([]shadow.Plan{planOf("A", copied(1), zero(), zero())}, 0, 0, []int64{b}, []int64{1}, w.first("LA;", 3), 5, 0, 0, w.first("LA;", 3), 9, 0, 0, w.first("LC;", 0))
	w.makes([]shadow.Plan{planOf("A", made(number(int64(c))), zero(), zero())}, 9, 1, []int64{a}, []int64{1}, w.first("LA;", 3), 5, 0, 0, w.first("LC;", 0))
	w.refused([]shadow.Plan{planOf("A", made(number(a+1)), zero(), zero())}, 9, 0, api.ErrRange, a)
	w.refused([]shadow.Plan{planOf("A", made(number(-1)), zero(), zero())}, 9, 0, api.ErrRange, a)
	w.set(a, 77)
	w.refused(nil, 9, 0, api.ErrRange, b)
	w.makes([]shadow.Plan{planOf("A", zero(), zero(), copied(0))}, 0, 0, []int64{b, a}, []int64{1, 5}, w.first("LA;", 3), 0, 0, a, w.first("LA;", 3), 0, 0, 77)
}

// P22.2: addresses that are no thing's.
func TestRange(t *testing.T) {
	w := empty(t, 30)
	a := w.add("LA;", 0, 2, 1)
	b := w.add("LB;", a, 0, 0, 0, 0)
	for _, at := range []int64{math.MinInt64, -1, 2, 3, 4, 6, 11, 31, math.MaxInt64} {
		w.refused(nil, 9, 0, api.ErrRange, at)
		w.refused(nil, 9, 0, api.ErrRange, 0, a, at)
		w.refused(nil, 9, 0, api.ErrRange, at, a)
		w.set(b, a, 0, 0, 0, at)
		w.refused(nil, 9, 0, api.ErrRange, b)
	}
	// What is not come to may be anything.
	w.makes(nil, 9, 0, []int64{a}, []int64{1}, w.first("LA;", 3), 0, 2, 1)
}

// P22.2: types without a Shape.
func TestTypesWithoutShape(t *testing.T) {
	for _, d := range []string{"LGone;", "[LGone;", "I", "B", "V", "N", "", "[V"} {
		w := empty(t, 30)
		odd := w.add(d, 0, 0, 0)
		a := w.add("LA;", 0, 1, 1)
		w.refused(nil, 9, 0, api.ErrForm, odd)
		w.refused(nil, 9, 0, api.ErrForm, a, odd)
		w.refused([]shadow.Plan{planOf("Gone", zero(), zero(), zero()), planOf("")}, 9, 0, api.ErrForm, odd)
		w.set(a, odd)
		w.refused(nil, 9, 0, api.ErrForm, a)
		w.makes([]shadow.Plan{planOf("A", zero(), zero(), zero())}, 9, 0, []int64{a}, []int64{1}, w.first("LA;", 3), 0, 0, 0)
	}
	// A number that is no type's.
	w := empty(t, 30)
	w.Thing(65535, 1)
	w.refused(nil, 9, 0, api.ErrForm, 1)
}

// P22.2: there is room for just as many words as the old heap has.
func TestRoom(t *testing.T) {
	w := empty(t, 16)
	for range 4 {
		w.add("LA;")
	}
	grow := []shadow.Plan{planOf("A", zero(), zero(), zero())}
	four := []int64{w.first("LA;", 3), 0, 0, 0}
	w.makes(grow, 0, 0, []int64{1, 2, 3, 4}, []int64{1, 5, 9, 13}, slices.Repeat(four, 4)...)
	w.add("LA;")
	w.refused(grow, 0, 0, api.ErrFull, 1, 2, 3, 4, 5)
	w.refused(grow, 0, 0, api.ErrFull, 5, 4, 3, 2, 1, 99)
	w.makes(grow, 0, 0, []int64{5, 4, 3, 2, 5}, []int64{1, 5, 9, 13, 1}, slices.Repeat(four, 4)...)
	// The fifth one is met in what another one speaks of.
	l := w.add("[LA;", 2, 1, 5)
	w.makes(grow, 0, 0, []int64{l, 2}, []int64{1, 5}, slices.Concat([]int64{w.first("[LA;", 3), 2, 9, 13}, slices.Repeat(four, 3))...)
	w.refused(grow, 0, 0, api.ErrFull, l, 2, 3)
	// A heap that is full may come to be one that has room.
	x := empty(t, 16)
	x.add("LC;", 1, 2, 3, 4, 5, 6, 7)
	x.add("LC;", 1, 2, 3, 4, 5, 6, 7)
	x.makes([]shadow.Plan{planOf("C")}, 0, 0, []int64{9, 1}, []int64{1, 2}, x.first("LC;", 0), x.first("LC;", 0))
}

// P22.2: as many words, or steps, as can not be.
func TestSizes(t *testing.T) {
	w := empty(t, 60)
	small := w.add("LA;", 0, 1)
	great := w.add("LA;", 0, 1, 2, 3)
	right := w.add("LA;", 0, 1, 2)
	none := w.add("LC;")
	some := w.add("LC;", 0)
	for _, at := range []int64{small, great, some} {
		w.refused(nil, 9, 0, api.ErrForm, at)
		w.refused(nil, 9, 0, api.ErrForm, right, none, at)
		w.set(right, at)
		w.refused(nil, 9, 0, api.ErrForm, right)
		w.set(right, 0)
	}
	for _, l := range [][]turn.Step{nil, {zero()}, {zero(), zero()}, {zero(), zero(), zero(), zero()}} {
		for _, at := range []int64{small, right, great} {
			w.refused([]shadow.Plan{planOf("A", l...)}, 9, 0, api.ErrForm, at)
		}
	}
	// It is asked ahead of the first step.
	w.refused([]shadow.Plan{planOf("A", made(op(api.Pop)))}, 9, 0, api.ErrForm, right)
	w.refused([]shadow.Plan{planOf("A", made(op(api.Pop)), zero(), zero(), zero())}, 9, 0, api.ErrForm, right)
	w.refused([]shadow.Plan{planOf("A", made(number(1)))}, 0, 0, api.ErrForm, right)
	w.refused([]shadow.Plan{planOf("C", zero())}, 9, 0, api.ErrForm, none)
	w.makes([]shadow.Plan{planOf("C")}, 9, 0, []int64{none, some}, []int64{1, 2}, w.first("LC;", 0), w.first("LC;", 0))
	w.makes(nil, 9, 0, []int64{right}, []int64{1}, w.first("LA;", 3), 0, 1, 2)
	// An array, and a text, has as many words as it had: none, too.
	l, s := w.add("[LA;"), w.add("S")
	w.makes(nil, 9, 0, []int64{l, s}, []int64{1, 2}, w.first("[LA;", 0), w.first("S", 0))
}

// P22.2: the first error is told, as things come to be others.
func TestFirstError(t *testing.T) {
	w := empty(t, 24)
	odd := w.add("LGone;")
	bad := w.add("LA;", 0)
	right := w.add("LA;", 99, 1, 2)
	other := w.add("LB;", odd, 0, 0, 0, 0)
	// All roots are come to ahead of the first thing's being made.
	w.refused(nil, 9, 0, api.ErrRange, right, bad, 77, odd)
	w.refused(nil, 9, 0, api.ErrForm, odd, 77)
	w.refused(nil, 9, 0, api.ErrRange, bad, 77)
	w.refused(nil, 9, 0, api.ErrForm, bad, right)
	// What a thing speaks of is come to ahead of the next thing's being made.
	w.refused(nil, 9, 0, api.ErrRange, right, bad)
	w.refused(nil, 9, 0, api.ErrForm, other, right)
	w.refused(nil, 9, 0, api.ErrRange, right, other)
	// There is no room for the one that is come to, or there is no such one: whichever comes first.
	for range 6 {
		w.add("LA;")
	}
	w.refused(nil, 9, 0, api.ErrFull, right, bad, other, 16, 17, 18, 77)
	w.refused(nil, 9, 0, api.ErrRange, right, bad, other, 16, 77, 17, 18)
	w.refused(nil, 9, 0, api.ErrForm, right, bad, other, 16, odd, 17, 18)
}

// P22.2, P22.4: the fuel that it takes is enough; of a step that fails it is told how much was taken.
func TestFuel(t *testing.T) {
	w := empty(t, 60)
	a := w.add("LA;", 0, 3, 1)
	b := w.add("LA;", a, 5, 0)
	c := w.add("LA;", b, 0, 0)
	five := made(number(30), oldField(1), op(api.Div), number(1), op(api.Sub))
	not := made(oldField(2), op(api.Not))
	plans := []shadow.Plan{planOf("A", copied(0), five, not)}
	w.makes(plans, 14, 14, []int64{b}, []int64{1}, w.first("LA;", 3), 5, 5, 1, w.first("LA;", 3), 0, 9, 0)
	w.makes(plans, 15, 14, []int64{a, b}, []int64{1, 5}, w.first("LA;", 3), 0, 9, 0, w.first("LA;", 3), 1, 5, 1)
	w.makes(plans, 1<<63-1, 14, []int64{b}, []int64{1}, w.first("LA;", 3), 5, 5, 1, w.first("LA;", 3), 0, 9, 0)
	for fuel := range 14 {
		w.refused(plans, fuel, fuel, api.ErrFuel, b)
		w.refused(plans, fuel, fuel, api.ErrFuel, a, b)
	}
	for _, fuel := range []int{-1, -1 << 63} {
		w.refused(plans, fuel, 0, api.ErrFuel, b)
		w.makes([]shadow.Plan{planOf("A", zero(), copied(1), copied(2))}, fuel, 0, []int64{b}, []int64{1}, w.first("LA;", 3), 0, 5, 0)
	}
	// The division by 0 in the thing c is begun.
	w.refused(plans, 17, 17, api.ErrTurn, a, b, c)
	w.refused(plans, 99, 17, api.ErrTurn, a, b, c)
	w.refused(plans, 16, 16, api.ErrFuel, a, b, c)
	w.refused(plans, 99, 3, api.ErrTurn, c)
	w.refused(plans, 99, 10, api.ErrTurn, a, c)
	w.refused(plans, 2, 2, api.ErrFuel, c)
	// An old field that there is not, code that does not fit.
	w.refused([]shadow.Plan{planOf("A", zero(), made(number(1)), made(oldField(3)))}, 9, 2, api.ErrTurn, a)
	w.refused([]shadow.Plan{planOf("A", zero(), made(number(1)), made(op(api.True), op(api.Neg)))}, 9, 3, api.ErrTurn, a)
	// Of all other errors it is not told.
	w.refused(plans, 99, 0, api.ErrRange, a, b, 2)
	w.refused([]shadow.Plan{planOf("A", made(number(2)), zero(), zero())}, 99, 0, api.ErrRange, b)
	d := w.add("LB;", 0)
	w.refused(plans, 99, 0, api.ErrForm, a, d)
}

// P22.2: nothing of the old heap is sent, and what was sent in it plays no part.
func TestSent(t *testing.T) {
	w := empty(t, 40)
	a := w.add("LA;", 0, 3, 1)
	b := w.add("LA;", a, 5, 0)
	if e := w.Send(a, 30); e != api.OK {
		t.Fatalf("Send: error %d", e)
	}
	for range 2 {
		w.makes(nil, 0, 0, []int64{b}, []int64{1}, w.first("LA;", 3), 5, 5, 0, w.first("LA;", 3), 0, 3, 1)
	}
	x := w.run(nil, 0, b)
	if l := sends(x.g); !slices.Equal(l, []int64{0, 0}) {
		t.Errorf("in the new heap things are sent to %d", l)
	}
	// The new heap is one of its own.
	x.g.Set(1, 1, 77)
	x.now[0] = 9
	w.makes(nil, 0, 0, []int64{b}, []int64{1}, w.first("LA;", 3), 5, 5, 0, w.first("LA;", 3), 0, 3, 1)
	if at, e := x.g.Thing(3, 30); at != 9 || e != api.OK {
		t.Errorf("Thing in the new heap = %d, error %d", at, e)
	}
}

// P22.2: plans are not kept.
func TestPlansAreNotKept(t *testing.T) {
	w := empty(t, 16)
	a := w.add("LA;", 0, 3, 1)
	plans := []shadow.Plan{planOf("A", zero(), made(number(4)), copied(2))}
	x := w.run(plans, 9, a)
	clear(plans[0].Steps[1].Code)
	clear(plans[0].Steps)
	clear(plans)
	if raw := x.g.Raw(); !slices.Equal(raw, []int64{w.first("LA;", 3), 0, 4, 1}) {
		t.Errorf("Raw = %d", raw)
	}
}

// P22.3: by hand, with what a collection leaves beside it.
func TestAsCollected(t *testing.T) {
	w := empty(t, 40)
	a := w.add("LA;", 0, 3, 1)
	w.add("LC;")
	b := w.add("LB;", a, 5, 0, 0, w.text("text"))
	w.add("[LA;", 1, b)
	x := w.run(nil, 0, b, 0, a)
	g, l, e := collect.Run(w.Heap, w.p, b, 0, a)
	if e != api.OK || !slices.Equal(g.Raw(), x.g.Raw()) || !slices.Equal(l, x.now) || g.Cap() != x.g.Cap() {
		t.Errorf("Make: %d, %d; Run: %d, %d, error %d", x.g.Raw(), x.now, g.Raw(), l, e)
	}
	// It has room for as many more words, and no more.
	if at, e := x.g.Thing(1, 40-x.g.Used()); at != 0 || e != api.ErrFull {
		t.Errorf("Thing = %d, error %d", at, e)
	}
}
