package shadow_test

import (
	"math/rand/v2"
	"slices"
	"strings"
	"testing"

	"hornbook/api"
	"hornbook/asm"
	"hornbook/collect"
	"hornbook/heap"
	"hornbook/link"
	"hornbook/pack"
	"hornbook/shadow"
	"hornbook/table"
	"hornbook/turn"
)

// picker answers a number from 0 to below another one.
type picker func(below int) int

// one answers one of some texts.
func (pick picker) one(l ...string) string {
	return l[pick(len(l))]
}

// thing is a thing by its words alone: its type, and what is behind its first word.
type thing struct {
	d     string
	words []int64
}

// things answers all things of a heap by its words alone.
func things(h *heap.Heap, p *link.Prog) map[int64]thing {
	all := map[int64]thing{}
	raw := h.Raw()
	for at := 0; at < len(raw); {
		size := int(raw[at] & 65535)
		all[int64(at+1)] = thing{p.Name(int(raw[at] >> 16)), raw[at+1 : at+1+size]}
		at += 1 + size
	}
	return all
}

// refType tells whether a type is one of things, by chapter 2's words.
func refType(d string) bool {
	return d == "S" || strings.HasPrefix(d, "[") || strings.HasPrefix(d, "L")
}

// classOf answers the class of whose things a type is.
func classOf(d string) (string, bool) {
	if !strings.HasPrefix(d, "L") {
		return "", false
	}
	return d[1 : len(d)-1], true
}

// sizeOf works out anew how many words a thing has in a new heap; false, if its type has no Shape.
func (x thing) sizeOf(now *table.Table) (int, bool) {
	if x.d != "S" && !(refType(x.d) && now.Hier().Known(x.d)) {
		return 0, false
	}
	if class, ok := classOf(x.d); ok {
		return len(now.Layout(class)), true
	}
	return len(x.words), true
}

// places works out anew which words of a new thing are of things.
func (x thing) places(now *table.Table) []int {
	var l []int
	if class, ok := classOf(x.d); ok {
		for i, f := range now.Layout(class) {
			if refType(f.Desc) {
				l = append(l, i)
			}
		}
		return l
	}
	for i := 1; i < len(x.words) && x.d[0] == '[' && refType(x.d[1:]); i++ {
		l = append(l, i)
	}
	return l
}

// model works out anew what Make does.
type model struct {
	all   map[int64]thing
	now   *table.Table
	most  int
	used  int
	order []int64
	to    map[int64]int64
	made  map[int64]thing
	took  int
}

// come is when a thing is come to.
func (m *model) come(at int64) api.Errno {
	x, ok := m.all[at]
	if at == 0 || m.to[at] != 0 {
		return api.OK
	}
	if !ok {
		return api.ErrRange
	}
	size, ok := x.sizeOf(m.now)
	if !ok {
		return api.ErrForm
	}
	if m.used+1+size > m.most {
		return api.ErrFull
	}
	m.to[at] = int64(m.used + 1)
	m.used += 1 + size
	m.order = append(m.order, at)
	return api.OK
}

// make is when a thing is made.
func (m *model) make(at int64, plans []shadow.Plan, fuel int) api.Errno {
	x := m.all[at]
	class, of := classOf(x.d)
	size, _ := x.sizeOf(m.now)
	i := slices.IndexFunc(plans, func(p shadow.Plan) bool { return of && p.Class == class })
	if i < 0 && len(x.words) != size || i >= 0 && len(plans[i].Steps) != size {
		return api.ErrForm
	}
	y := thing{x.d, slices.Clone(x.words)}
	if i >= 0 {
		y.words = nil
		for _, s := range plans[i].Steps {
			v, took, e := turn.Do(s, x.words, fuel-m.took)
			m.took += took
			if e != api.OK {
				return e
			}
			y.words = append(y.words, v)
		}
	}
	m.made[at] = y
	return api.OK
}

// run is all of it.
func (m *model) run(plans []shadow.Plan, fuel int, roots []int64) api.Errno {
	for _, at := range roots {
		if e := m.come(at); e != api.OK {
			return e
		}
	}
	for done := 0; done < len(m.order); done++ {
		at := m.order[done]
		if e := m.make(at, plans, fuel); e != api.OK {
			return e
		}
		for _, i := range m.made[at].places(m.now) {
			if e := m.come(m.made[at].words[i]); e != api.OK {
				return e
			}
		}
	}
	return api.OK
}

// raw answers all words of the new heap.
func (m *model) raw(y *link.Types) []int64 {
	var l []int64
	for _, at := range m.order {
		x := m.made[at]
		words := slices.Clone(x.words)
		for _, i := range x.places(m.now) {
			words[i] = m.to[words[i]]
		}
		l = append(append(l, int64(y.Id(x.d)*65536+len(words))), words...)
	}
	return l
}

// holds holds what Make answers; it answers the error that came, and how many things came to be.
func (w world) holds(plans []shadow.Plan, fuel int, roots []int64) (api.Errno, int) {
	w.t.Helper()
	m := &model{all: things(w.Heap, w.p), now: w.p.Table(), most: w.Cap(), to: map[int64]int64{}, made: map[int64]thing{}}
	e := m.run(plans, fuel, roots)
	if e != api.OK {
		if e != api.ErrFuel && e != api.ErrTurn {
			m.took = 0
		}
		w.refused(plans, fuel, m.took, e, roots...)
		return e, len(m.order)
	}
	var now []int64
	for _, at := range roots {
		now = append(now, m.to[at])
	}
	w.makes(plans, fuel, m.took, roots, now, m.raw(w.p.Types())...)
	// P22.4.
	w.makes(plans, m.took, m.took, roots, now, m.raw(w.p.Types())...)
	if m.took > 0 {
		w.refused(plans, m.took-1, m.took-1, api.ErrFuel, roots...)
	}
	return e, len(m.order)
}

// types are what the things of these tests are of.
func types() []string {
	return []string{"LA;", "LA;", "LA;", "LB;", "LB;", "LD;", "LD;", "LC;", "[LA;", "[LA;", "[LObject;", "[[LB;", "S", "[S", "[I", "LObject;"}
}

// step answers one for a field; most of those of things leave 0, or an old word.
func (pick picker) step(f api.Field) turn.Step {
	if pick(3) == 0 {
		return zero()
	}
	if refType(f.Desc) || pick(3) == 0 {
		return copied(pick(6) - 1)
	}
	l := []turn.Op{number(7), number(int64(pick(9))), op([]int{api.Add, api.Rem, api.Div}[pick(3)])}
	if pick(5) == 0 {
		l[0] = oldField(pick(4))
	}
	for range pick(4) {
		l = append(l, number(int64(pick(3)+1)), op(api.Mul))
	}
	return made(l...)
}

// plans answers some of classes, of the things of which most are to be others.
func (pick picker) plans(now *table.Table, wrongOf int) []shadow.Plan {
	var l []shadow.Plan
	for _, class := range []string{"A", "B", "C", "D", "Object", "Z", "A"} {
		if pick(2) == 0 {
			continue
		}
		x := shadow.Plan{Class: class}
		for _, f := range now.Layout(class) {
			x.Steps = append(x.Steps, pick.step(f))
		}
		if wrongOf > 0 && pick(wrongOf) == 0 {
			x.Steps = append(x.Steps, zero())
		}
		l = append(l, x)
	}
	return l
}

// grow makes things, and binds them to each other. Those of a class that has a plan have any words; one of wrongOf is of a type that can not be, or bound to what may be no thing (none, if that is 0).
func (w world) grow(pick picker, many, wrongOf int, plans []shadow.Plan) {
	w.t.Helper()
	wrong := func() bool { return wrongOf > 0 && pick(wrongOf) == 0 }
	for range many {
		l := types()
		x := thing{d: l[pick(len(l))], words: make([]int64, pick(pick(6)+1))}
		class, of := classOf(x.d)
		if wrong() {
			x.d = pick.one("I", "LZ;", "[LZ;", "")
		} else if planned := slices.ContainsFunc(plans, func(p shadow.Plan) bool { return p.Class == class }); of && !planned && !wrong() {
			size, _ := x.sizeOf(w.p.Table())
			x.words = make([]int64, size)
		}
		w.Thing(w.p.Id(x.d), len(x.words))
	}
	addresses := append(w.All(), 0, 0)
	for _, at := range w.All() {
		size, _ := w.Size(at)
		for i := range size {
			v := addresses[pick(len(addresses))]
			if wrong() {
				v = int64(pick(w.Used()+3) - 1)
			}
			w.Set(at, i, v)
		}
	}
}

// roots picks some addresses; now and then one that is none.
func (w world) roots(pick picker, wrongOf int) []int64 {
	l := append(w.All(), 0)
	var out []int64
	if pick(3) == 0 {
		out = w.All()
	}
	for range pick(5) {
		at := l[pick(len(l))]
		if wrongOf > 0 && pick(wrongOf) == 0 {
			at = int64(pick(w.Used()+3) - 1)
		}
		out = append(out, at)
	}
	return out
}

// P22.2, P22.4: of many heaps and plans, with what can be in them and with what can not.
func TestRandomHeaps(t *testing.T) {
	pick := picker(rand.New(rand.NewPCG(22, 1)).IntN)
	came, many := map[api.Errno]int{}, 0
	p := progOf(t, now(t))
	for round := range 4000 {
		w := world{heapOf(t, 16+pick(60)), t, p}
		wrongOf := []int{0, 0, 20, 80}[round%4]
		plans := pick.plans(p.Table(), wrongOf)
		w.grow(pick, 1+pick(22), wrongOf, plans)
		roots := w.roots(pick, wrongOf)
		e, n := w.holds(plans, []int{1000, pick(30)}[pick(2)], roots)
		came[e]++
		if e == api.OK {
			many += n
		}
		if t.Failed() {
			t.Fatalf("of %v, roots %d in %d", plans, roots, w.Raw())
		}
	}
	if came[api.OK] < 1000 || came[api.ErrRange] < 100 || came[api.ErrForm] < 100 || came[api.ErrFull] < 100 || came[api.ErrFuel] < 100 || came[api.ErrTurn] < 100 || many < 4000 {
		t.Errorf("errors %v came, %d things came to be others", came, many)
	}
}

// P22.3: without plans, of things that can be, it is as a collection.
func TestRandomCollections(t *testing.T) {
	pick := picker(rand.New(rand.NewPCG(22, 2)).IntN)
	p := progOf(t, now(t))
	many := 0
	for range 1000 {
		w := world{heapOf(t, 16+pick(150)), t, p}
		w.grow(pick, 1+pick(40), 0, nil)
		roots := w.roots(pick, 0)
		x := w.run(nil, pick(9), roots...)
		g, l, e := collect.Run(w.Heap, p, roots...)
		if e != api.OK || x.e != e || x.took != 0 || !slices.Equal(x.now, l) || !slices.Equal(x.g.Raw(), g.Raw()) || x.g.Cap() != g.Cap() || !slices.Equal(x.g.All(), g.All()) {
			t.Fatalf("of %d in %d: %v, error %d, and %d, error %d", roots, w.Raw(), x, x.e, l, e)
		}
		many += len(g.All())
	}
	if many < 3000 {
		t.Errorf("just %d things were collected", many)
	}
}

// older answers a table that comes to be now's.
func (pick picker) older(t testing.TB) *table.Table {
	t.Helper()
	fields := func(l ...string) []string {
		for i := range l {
			j := pick(i + 1)
			l[i], l[j] = l[j], l[i]
		}
		return l[pick(len(l)):]
	}
	return tableOf(t,
		asm.New("A", "Object", fields("next LA;", "x "+pick.one("I", "B"), "ok B", "was LB;", "m I")...),
		asm.New("B", "A", fields("s S", "n I", "p LA;", "q LB;")...),
		asm.New("C", "DivExc", fields("one I", "two LA;", "three S")...),
		asm.New("D", "C", fields("a LA;", "o LObject;", "l [[I", "t LB;")...),
	)
}

// bundle answers one of turns of A, B and D, that can be.
func (pick picker) bundle(t testing.TB, old, now *table.Table) api.Bundle {
	t.Helper()
	var x api.Bundle
	for _, class := range []string{"A", "B", "D"} {
		c := asm.New(class, "Object")
		n := api.Turn{Class: class}
		for _, f := range now.Layout(class) {
			_, owner, _ := now.Field(class, f.Name)
			m := api.Move{Field: f.Name}
			for _, o := range old.Layout(class) {
				switch {
				case m.Kind != api.Zero || pick(3) == 0:
				case f.Desc == "I" && o.Desc == "I":
					m.Kind = api.Made
					m.Code = []api.Ins{c.Ins("old " + class + "." + o.Name + ":I"), c.Ins("int 1000"), c.Ins("add")}
				case now.Hier().Sub(o.Desc, f.Desc):
					m.Kind, m.From = api.Copy, o.Name
				}
			}
			if owner == class && pick(2) == 0 {
				n.Moves = append(n.Moves, m)
			}
		}
		n.Consts = c.Consts
		x.Classes = append(x.Classes, c.Class)
		x.Turns = append(x.Turns, n)
	}
	if e := pack.Right(x); e != api.OK {
		t.Fatalf("the bundle %v can not be: error %d", x, e)
	}
	if name, e := turn.Check(old, now, x); e != api.OK {
		t.Fatalf("Check = %q, error %d of %v", name, e, x)
	}
	return x
}

// comes works out anew what a field of a class comes to be, by the names of the fields: an old field, and how much is added; "" of 0.
func comes(old, now *table.Table, x api.Bundle, class, field string) (string, int64) {
	_, owner, _ := now.Field(class, field)
	for _, n := range x.Turns {
		for _, m := range n.Moves {
			if n.Class != owner || m.Field != field {
				continue
			}
			switch m.Kind {
			case api.Copy:
				return m.From, 0
			case api.Made:
				return n.Consts[m.Code[0].A].T, 1000
			}
			return "", 0
		}
	}
	f, above, _ := old.Field(owner, field)
	g, _, _ := now.Field(owner, field)
	if f != g || above != owner {
		return "", 0
	}
	return field, 0
}

// live makes things of a program, bound to each other as their types say.
func (w world) live(pick picker) {
	w.t.Helper()
	for range 4 + pick(14) {
		d := pick.one("LA;", "LB;", "LC;", "LD;", "[LA;", "S", "[[I", "[I", "LB;")
		if shape, _ := w.p.Shape(w.p.Id(d)); shape.Kind == link.Array {
			w.Array(w.p.Id(d), pick(4))
		} else if shape.Kind == link.Text {
			w.text("text"[:pick(5)])
		} else {
			w.Thing(w.p.Id(d), shape.Size)
		}
	}
	all := things(w.Heap, w.p)
	fits := func(d string) int64 {
		l := []int64{0}
		for _, at := range w.All() {
			if w.p.Table().Sub(all[at].d, d) {
				l = append(l, at)
			}
		}
		return l[pick(len(l))]
	}
	for _, at := range w.All() {
		if class, ok := classOf(all[at].d); ok {
			for i, f := range w.p.Table().Layout(class) {
				v := fits(f.Desc)
				if !refType(f.Desc) {
					v = int64(pick(2))
				}
				w.Set(at, i, v)
			}
			continue
		}
		for _, i := range all[at].places(w.p.Table()) {
			w.Set(at, i, fits(all[at].d[1:]))
		}
	}
}

// holdThing holds that a new thing is what an old one comes to be; to is where all of them are.
func holdThing(t testing.TB, old, now *table.Table, x api.Bundle, was, is thing, to map[int64]int64, all map[int64]thing) {
	t.Helper()
	class, ok := classOf(was.d)
	if !ok {
		want := slices.Clone(was.words)
		for _, i := range was.places(now) {
			want[i] = to[want[i]]
		}
		if is.d != was.d || !slices.Equal(is.words, want) {
			t.Errorf("%v came to be %v, want %d", was, is, want)
		}
		return
	}
	layout := now.Layout(class)
	if is.d != was.d || len(is.words) != len(layout) {
		t.Fatalf("%v came to be %v", was, is)
	}
	for i, f := range layout {
		want := int64(0)
		if from, more := comes(old, now, x, class, f.Name); from != "" {
			_, _, at := old.Field(class, from)
			want = was.words[at] + more
		}
		if refType(f.Desc) {
			want = to[want]
			if want != 0 && !now.Hier().Sub(all[want].d, f.Desc) {
				t.Errorf("%s of %s is of a thing of %s", f.Name, class, all[want].d)
			}
		}
		if is.words[i] != want {
			t.Errorf("%s of %s came to be %d, want %d", f.Name, class, is.words[i], want)
		}
	}
}

// P22.1, P22.2: things of a program come to be those of another one, as the words of chapter 21 say of their fields' names.
func TestRandomPrograms(t *testing.T) {
	pick := picker(rand.New(rand.NewPCG(22, 3)).IntN)
	now := now(t)
	many := 0
	for range 1000 {
		old := pick.older(t)
		p, q := programs(t, old, now)
		w := world{heapOf(t, 400), t, p}
		w.live(pick)
		x := pick.bundle(t, old, now)
		roots := w.All()
		slices.Reverse(roots)
		r := world{w.Heap, t, q}.run(shadow.Plans(old, now, x), 10000, roots...)
		if r.e != api.OK || len(r.now) != len(roots) || len(r.g.All()) != len(roots) {
			t.Fatalf("Make: error %d, %d of %d things", r.e, len(r.now), len(roots))
		}
		to := map[int64]int64{}
		for i, at := range roots {
			to[at] = r.now[i]
		}
		was, is := things(w.Heap, p), things(r.g, q)
		for _, at := range roots {
			holdThing(t, old, now, x, was[at], is[to[at]], to, is)
			many++
		}
		if t.Failed() {
			t.Fatalf("of %v, %v, %v", old.Classes(), x, w.Raw())
		}
	}
	if many < 5000 {
		t.Errorf("just %d things came to be others", many)
	}
}

// programs answers those of two tables, of the same types.
func programs(t testing.TB, old, now *table.Table) (*link.Prog, *link.Prog) {
	t.Helper()
	p := progOf(t, old)
	q, e := link.New(now, p.Types())
	if e != api.OK {
		t.Fatalf("link.New: error %d", e)
	}
	return p, q
}

// P22.2 to P22.4: whatever a heap holds, and whatever plans there are, no call panics, and each answers what the words say.
func FuzzMake(f *testing.F) {
	f.Add([]byte{3, 1, 2, 0, 4, 9}, uint8(20), int64(1), int64(0), int16(9))
	f.Add([]byte{0, 0, 0, 7, 2, 8, 3, 1, 1, 1, 2, 3, 4, 5, 6, 7, 8, 9, 10, 0, 0, 0, 1, 2, 3}, uint8(60), int64(4), int64(1), int16(100))
	f.Add([]byte("any bytes at all, that pick what there is, and what plans"), uint8(90), int64(-1), int64(3), int16(-3))
	p := progOf(f, now(f))
	f.Fuzz(func(t *testing.T, bytes []byte, words uint8, a, b int64, fuel int16) {
		pick := picker(func(below int) int {
			if len(bytes) == 0 {
				return 0
			}
			n := int(bytes[0]) % below
			bytes = bytes[1:]
			return n
		})
		h, e := heap.New(int(words))
		if e != api.OK {
			return
		}
		w := world{h, t, p}
		plans := pick.plans(p.Table(), 9)
		w.grow(pick, len(bytes)/6, 1+pick(30), plans)
		w.holds(plans, int(fuel), append(w.roots(pick, 9), a, b))
	})
}
