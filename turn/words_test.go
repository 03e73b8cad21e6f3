package turn_test

import (
	"math/rand/v2"
	"slices"
	"strconv"
	"strings"
	"testing"

	"hornbook/api"
	"hornbook/pack"
	"hornbook/pool"
	"hornbook/table"
	"hornbook/turn"
)

// picker answers a number from 0 to below another one.
type picker func(below int) int

// one answers one of some texts.
func (pick picker) one(l ...string) string {
	return l[pick(len(l))]
}

// mix puts what is in a list in any order.
func mix[T any](pick picker, l []T) {
	for i := range l {
		j := pick(i + 1)
		l[i], l[j] = l[j], l[i]
	}
}

// supers are the classes of these tests, and which one each stands below.
func supers() [][2]string {
	return [][2]string{{"A", "Object"}, {"B", "A"}, {"C", "B"}, {"D", "B"}, {"E", "Exc"}}
}

// desc answers a type of a field.
func (pick picker) desc() string {
	return pick.one("I", "I", "I", "B", "B", "S", "LA;", "LB;", "LD;", "LObject;", "[I")
}

// fields answers some of a class, whose names are its own.
func (pick picker) fields(name string) []api.Field {
	var l []api.Field
	for i := range 4 {
		if pick(2) == 0 {
			l = append(l, api.Field{Name: strings.ToLower(name) + strconv.Itoa(i), Desc: pick.desc()})
		}
	}
	mix(pick, l)
	return l
}

// varied answers fields of a class of which most stay.
func (pick picker) varied(name string, l []api.Field) []api.Field {
	l = slices.Clone(l)
	if pick(3) == 0 {
		return l
	}
	mix(pick, l)
	if len(l) > 0 && pick(2) == 0 {
		l = l[1:]
	}
	for i := range l {
		if pick(5) == 0 {
			l[i].Desc = pick.desc()
		}
	}
	for _, f := range pick.fields(name) {
		if !slices.ContainsFunc(l, func(o api.Field) bool { return o.Name == f.Name }) {
			l = append(l, f)
		}
	}
	return l
}

// tables answers a table, and another one that has most of its classes.
func (pick picker) tables(t testing.TB) (*table.Table, *table.Table) {
	t.Helper()
	var l, m []api.Class
	for _, x := range supers() {
		c := api.Class{Name: x[0], Super: x[1], Fields: pick.fields(x[0])}
		d := c
		d.Fields = pick.varied(c.Name, c.Fields)
		// The last one may be gone, or be there first.
		if gone := pick(4); c.Name != "E" || gone > 1 {
			l, m = append(l, c), append(m, d)
		} else if gone == 0 {
			l = append(l, c)
		} else {
			m = append(m, d)
		}
	}
	mix(pick, l)
	mix(pick, m)
	old, name, e := table.New(l...)
	now, other, f := table.New(m...)
	if e != api.OK || f != api.OK {
		t.Fatalf("table.New = %q, error %d, %q, error %d of %v, %v", name, e, other, f, l, m)
	}
	return old, now
}

// effect answers what an instruction takes and leaves, each type a letter, by chapter 9's words; of Old and those that are of any type nothing.
func effect(o int) (string, string, bool) {
	switch o {
	case api.Nop:
		return "", "", true
	case api.Int:
		return "", "I", true
	case api.True, api.False:
		return "", "B", true
	case api.Add, api.Sub, api.Mul, api.Div, api.Rem:
		return "II", "I", true
	case api.Neg:
		return "I", "I", true
	case api.Not:
		return "B", "B", true
	case api.Lt, api.Le, api.EqI:
		return "II", "B", true
	case api.EqB:
		return "BB", "B", true
	}
	return "", "", false
}

// behind answers the stack behind an instruction, as letters; false, if it does not fit. Of Old d is the type.
func behind(o int, d, stack string) (string, bool) {
	takes, leaves, ok := effect(o)
	left, there := strings.CutSuffix(stack, takes)
	switch {
	case o == api.Old:
		left, ok = stack+d, d == "I" || d == "B"
	case o == api.Pop && stack != "":
		left, ok = stack[:len(stack)-1], true
	case o == api.Dup && stack != "":
		left, ok = stack+stack[len(stack)-1:], true
	default:
		left, ok = left+leaves, ok && there
	}
	return left, ok && len(left) <= 16
}

// allowed are the instructions that a move may have; those that most code needs stand more than once.
func allowed() []int {
	return []int{api.Nop, api.Int, api.Int, api.True, api.False, api.Old, api.Old, api.Old, api.Pop, api.Dup, api.Add, api.Sub, api.Mul, api.Div, api.Rem, api.Neg, api.Not, api.Lt, api.Le, api.EqI, api.EqB}
}

// writer writes a turn's code.
type writer struct {
	picker
	class  string
	old    []api.Field
	consts []api.Const
	code   []api.Ins
	stack  string
}

// constant answers where a constant stands.
func (w *writer) constant(c api.Const) int {
	l, at, e := pool.Add(w.consts, c)
	if e == api.OK {
		w.consts = l
	}
	return at
}

// ins answers an instruction, and the type of its old field.
func (w *writer) ins(o int) (api.Ins, string) {
	i := api.Ins{Op: o}
	switch o {
	case api.Int:
		n := int64(w.picker(7) - 3)
		if w.picker(5) == 0 {
			n = []int64{1 << 62, -1 << 63, 1<<63 - 1, 1000003}[w.picker(4)]
		}
		i.A = w.constant(api.Const{Kind: api.CInt, N: n})
	case api.Old:
		f := api.Field{Name: "none", Desc: "I"}
		if len(w.old) > 0 {
			f = w.old[w.picker(len(w.old))]
		}
		class := w.class
		if w.picker(90) == 0 {
			class = w.one("A", "B", "Z")
		}
		if w.picker(90) == 0 {
			f.Desc = w.one("I", "B")
		}
		i.A = w.constant(api.Const{Kind: api.CField, S: class, T: f.Name, U: f.Desc})
		return i, f.Desc
	}
	return i, ""
}

// put writes an instruction, if it fits; now and then one that does not.
func (w *writer) put(o int) {
	i, d := w.ins(o)
	if left, ok := behind(o, d, w.stack); ok {
		w.stack = left
	} else if w.picker(1000) > 0 {
		return
	}
	w.code = append(w.code, i)
}

// move writes code that mostly leaves one value of a type.
func (w *writer) move(d string) []api.Ins {
	w.code, w.stack = nil, ""
	l := allowed()
	for range w.picker(30) {
		w.put(l[w.picker(len(l))])
	}
	for range 40 {
		if strings.HasSuffix(w.stack, "II") {
			w.put([]int{api.Sub, api.Mul, api.Div, api.Rem}[w.picker(4)])
		} else if len(w.stack) > 1 {
			w.put(api.Pop)
		}
	}
	switch w.stack + d {
	case "IB":
		w.put(api.Dup)
		w.put(api.Le)
	case "BI":
		w.put(api.Pop)
		w.put(api.Int)
	case "I", "B":
		w.put(map[string]int{"I": api.Int, "B": api.False}[d])
	}
	if len(w.code) == 0 {
		w.put(api.True)
	}
	return w.code
}

// turn answers one of a class, most of whose moves can be.
func (pick picker) turn(old, now *table.Table, class string) api.Turn {
	c, _ := now.Class(class)
	w := &writer{picker: pick, class: class, old: old.Layout(class)}
	x := api.Turn{Class: class}
	for _, f := range c.Fields {
		if pick(3) == 0 {
			continue
		}
		m := api.Move{Field: f.Name, Kind: pick(3)}
		if f.Desc != "I" && f.Desc != "B" && pick(30) > 0 {
			m.Kind = pick(2)
		}
		if pick(25) == 0 {
			m.Field = pick.one("a", "b", "c") + strconv.Itoa(pick(4))
		}
		if slices.ContainsFunc(x.Moves, func(o api.Move) bool { return o.Field == m.Field }) {
			continue
		}
		switch m.Kind {
		case api.Copy:
			m.From = pick.from(w.old, now, f)
		case api.Made:
			m.Code = slices.Clone(w.move(f.Desc))
		}
		x.Moves = append(x.Moves, m)
	}
	x.Consts = w.consts
	return x
}

// from answers the name of an old field, that mostly can stand for another one, if one can.
func (pick picker) from(old []api.Field, now *table.Table, f api.Field) string {
	l := slices.Clone(old)
	mix(pick, l)
	for _, o := range l {
		if now.Sub(o.Desc, f.Desc) || pick(30) == 0 {
			return o.Name
		}
	}
	return pick.one("a", "b", "c") + strconv.Itoa(pick(4))
}

// bundle answers one of turns.
func (pick picker) bundle(old, now *table.Table) api.Bundle {
	var x api.Bundle
	for _, s := range supers() {
		if pick(2) == 0 && (s[0] != "E" || pick(3) == 0) {
			x.Classes = append(x.Classes, api.Class{Name: s[0], Super: s[1]})
			x.Turns = append(x.Turns, pick.turn(old, now, s[0]))
		}
	}
	mix(pick, x.Turns)
	return x
}

// owned is a field, and the class whose own it is.
type owned struct {
	api.Field
	class string
}

// layoutOf works out anew what fields a class has, from its own ones and those above.
func layoutOf(x *table.Table, class string) []owned {
	chain := x.Chain(class)
	slices.Reverse(chain)
	var l []owned
	for _, name := range chain {
		c, _ := x.Class(name)
		for _, f := range c.Fields {
			l = append(l, owned{f, name})
		}
	}
	return l
}

// named answers the one of some fields with a name.
func named(l []owned, name string) (owned, bool) {
	at := slices.IndexFunc(l, func(f owned) bool { return f.Name == name })
	if at < 0 {
		return owned{}, false
	}
	return l[at], true
}

// fitsOf works out anew whether a move's code fits.
func fitsOf(old *table.Table, x api.Turn, code []api.Ins, want string) bool {
	stack := ""
	for _, i := range code {
		d := ""
		if i.Op == api.Old {
			c := x.Consts[i.A]
			f, ok := named(layoutOf(old, x.Class), c.T)
			if !ok || c.S != x.Class || f.Desc != c.U {
				return false
			}
			d = c.U
		}
		left, ok := behind(i.Op, d, stack)
		if !ok {
			return false
		}
		stack = left
	}
	return stack == want
}

// checkOf works out anew what Check answers.
func checkOf(old, now *table.Table, x api.Bundle) (string, api.Errno) {
	for _, n := range x.Turns {
		if !slices.Contains(old.Names(), n.Class) || !slices.Contains(now.Names(), n.Class) {
			return n.Class, api.ErrNone
		}
		for _, m := range n.Moves {
			f, ok := named(layoutOf(now, n.Class), m.Field)
			from, there := named(layoutOf(old, n.Class), m.From)
			switch {
			case !ok || f.class != n.Class, m.Kind == api.Copy && !there:
				return n.Class, api.ErrNone
			case m.Kind == api.Copy && !now.Hier().Sub(from.Desc, f.Desc), m.Kind == api.Made && !fitsOf(old, n, m.Code, f.Desc):
				return n.Class, api.ErrType
			}
		}
	}
	return "", api.OK
}

// movesOf works out anew what Moves answers.
func movesOf(old, now *table.Table, x api.Bundle) []string {
	var l []string
	for _, class := range old.Names() {
		if !slices.Contains(now.Names(), class) {
			continue
		}
		other := !slices.EqualFunc(layoutOf(old, class), layoutOf(now, class), func(f, g owned) bool { return f.Field == g.Field })
		for _, n := range x.Turns {
			other = other || slices.Contains(now.Below(n.Class), class)
		}
		if other {
			l = append(l, class)
		}
	}
	return l
}

// result is what Do answers.
type result struct {
	v    int64
	took int
	e    api.Errno
}

// work works out anew what an instruction makes of numbers.
func work(o int, a, b int64) int64 {
	is := func(ok bool) int64 { return map[bool]int64{true: 1}[ok] }
	switch o {
	case api.Add:
		return a + b
	case api.Sub:
		return a - b
	case api.Mul:
		return a * b
	case api.Div:
		return a / b
	case api.Rem:
		return a % b
	case api.Lt:
		return is(a < b)
	case api.Le:
		return is(a <= b)
	}
	return is(a == b)
}

// workAll works out anew what instructions make, the ones at and behind bad do not fit. What an instruction is told is of a number, or of what an old field was; false of one that there was not.
func workAll(code []turn.Op, of func(turn.Op) (int64, bool), bad, fuel int) result {
	var stack []int64
	for i, o := range code {
		if i >= fuel {
			return result{took: i, e: api.ErrFuel}
		}
		v, ok := of(o)
		n := len(stack)
		if i >= bad || !ok || (o.Op == api.Div || o.Op == api.Rem) && stack[n-1] == 0 {
			return result{took: i + 1, e: api.ErrTurn}
		}
		switch o.Op {
		case api.Nop:
		case api.Int, api.Old:
			stack = append(stack, v)
		case api.True, api.False:
			stack = append(stack, map[int]int64{api.True: 1}[o.Op])
		case api.Pop:
			stack = stack[:n-1]
		case api.Dup:
			stack = append(stack, stack[n-1])
		case api.Neg:
			stack[n-1] = -stack[n-1]
		case api.Not:
			stack[n-1] = work(api.EqI, stack[n-1], 0)
		default:
			stack = append(stack[:n-2], work(o.Op, stack[n-2], stack[n-1]))
		}
	}
	if len(stack) != 1 {
		return result{took: len(code), e: api.ErrTurn}
	}
	return result{v: stack[0], took: len(code)}
}

// comes works out anew how a field comes to be, by the names of all fields; the turns can be.
func comes(old *table.Table, x api.Bundle, f owned, was map[string]int64, fuel int) result {
	at := slices.IndexFunc(x.Turns, func(n api.Turn) bool { return n.Class == f.class })
	if at >= 0 {
		n := x.Turns[at]
		for _, m := range n.Moves {
			if m.Field != f.Name {
				continue
			}
			var code []turn.Op
			for place, i := range m.Code {
				code = append(code, turn.Op{Op: i.Op, A: place})
			}
			of := func(o turn.Op) (int64, bool) {
				switch i := m.Code[o.A]; o.Op {
				case api.Int:
					return n.Consts[i.A].N, true
				case api.Old:
					return was[n.Consts[i.A].T], true
				}
				return 0, true
			}
			return []result{{}, {v: was[m.From]}, workAll(code, of, len(code), fuel)}[m.Kind]
		}
	}
	if o, ok := named(layoutOf(old, f.class), f.Name); ok && o == f {
		return result{v: was[f.Name]}
	}
	return result{}
}

// words answers what a thing of a class has, by its places and by its fields' names.
func (pick picker) words(old *table.Table, class string) ([]int64, map[string]int64) {
	var l []int64
	was := map[string]int64{}
	for _, f := range layoutOf(old, class) {
		v := int64(pick(5) - 2)
		if f.Desc == "B" {
			v = int64(pick(2))
		}
		l, was[f.Name] = append(l, v), v
	}
	return l, was
}

// holdPlans holds P21.2 to P21.5 of a class, of turns that can be; it answers how often a step of code was done, and failed.
func holdPlans(t testing.TB, pick picker, old, now *table.Table, x api.Bundle, class string) (made, failed int) {
	t.Helper()
	plan := turn.Plan(old, now, x, class)
	layout := layoutOf(now, class)
	if len(plan) != len(layout) {
		t.Fatalf("Plan of %s = %v, of the fields %v", class, plan, layout)
	}
	words, was := pick.words(old, class)
	for i, f := range layout {
		want := comes(old, x, f, was, 1000)
		for _, fuel := range []int{-1, 0, pick(20), want.took - 1, want.took, want.took + 1, 1000} {
			want := comes(old, x, f, was, fuel)
			v, took, e := turn.Do(plan[i], words, fuel)
			if (result{v, took, e}) != want {
				t.Errorf("%s of %s by %v of %d with %d: %d, %d, error %d, want %v", f.Name, class, plan[i], words, fuel, v, took, e, want)
			}
		}
		if plan[i].Kind == api.Made && want.e == api.OK {
			made++
		} else if plan[i].Kind == api.Made {
			failed++
		}
	}
	// P21.4.
	for i, s := range turn.Plan(old, now, api.Bundle{}, class) {
		o, ok := named(layoutOf(old, layout[i].class), layout[i].Name)
		want := result{}
		if ok && o == layout[i] {
			want.v = was[o.Name]
		}
		if v, took, e := turn.Do(s, words, 0); (result{v, took, e}) != want {
			t.Errorf("%s of %s without turns: %d, %d, error %d, want %d", layout[i].Name, class, v, took, e, want.v)
		}
	}
	return made, failed
}

// holdAll holds all that the chapter says of two tables and a bundle that can be; it answers what Check did.
func holdAll(t testing.TB, pick picker, old, now *table.Table, x api.Bundle) (e api.Errno, made, failed int) {
	t.Helper()
	name, e := turn.Check(old, now, x)
	if want, wantE := checkOf(old, now, x); name != want || e != wantE {
		t.Errorf("Check = %q, error %d, want %q, error %d", name, e, want, wantE)
	}
	if got, want := turn.Moves(old, now, x), movesOf(old, now, x); !slices.Equal(got, want) {
		t.Errorf("Moves = %q, want %q", got, want)
	}
	if e != api.OK {
		return e, 0, 0
	}
	for _, class := range old.Names() {
		if now.Has(class) {
			m, f := holdPlans(t, pick, old, now, x, class)
			made, failed = made+m, failed+f
		} else if l := turn.Plan(old, now, x, class); len(l) > 0 {
			t.Errorf("Plan of %s, that is gone, = %v", class, l)
		}
	}
	return e, made, failed
}

// P21.1 to P21.5: many tables, others that come of them, and bundles of turns.
func TestRandomTurns(t *testing.T) {
	pick := picker(rand.New(rand.NewPCG(21, 1)).IntN)
	came, made, failed := map[api.Errno]int{}, 0, 0
	for range 3000 {
		old, now := pick.tables(t)
		x := pick.bundle(old, now)
		if e := pack.Right(x); e != api.OK {
			t.Fatalf("the bundle %v can not be: error %d", x, e)
		}
		e, m, f := holdAll(t, pick, old, now, x)
		came[e], made, failed = came[e]+1, made+m, failed+f
		if t.Failed() {
			t.Fatalf("of %v, %v, %v", old.Classes(), now.Classes(), x)
		}
	}
	if came[api.OK] < 1500 || came[api.ErrNone] < 200 || came[api.ErrType] < 200 || made < 1000 || failed < 100 {
		t.Errorf("errors %v came, code made %d fields and failed at %d", came, made, failed)
	}
}

// fitOf works out anew how many instructions fit: as many as at most fit, whatever types the old fields have.
func fitOf(code []turn.Op, fields int) int {
	most := 0
	for types := range 1 << fields {
		stack, n := "", 0
		for _, o := range code {
			d := ""
			if o.Op == api.Old && o.A >= 0 && o.A < fields {
				d = []string{"I", "B"}[types>>o.A&1]
			}
			left, ok := behind(o.Op, d, stack)
			if !ok {
				break
			}
			stack, n = left, n+1
		}
		most = max(most, n)
	}
	return most
}

// holdDo holds what Do answers of any code.
func holdDo(t testing.TB, code []turn.Op, fields []int64, fuel int) result {
	t.Helper()
	of := func(o turn.Op) (int64, bool) {
		if o.Op != api.Old {
			return o.N, true
		}
		if o.A < 0 || o.A >= len(fields) {
			return 0, false
		}
		return fields[o.A], true
	}
	want := workAll(code, of, fitOf(code, len(fields)), fuel)
	s := turn.Step{Kind: api.Made, Code: code}
	v, took, e := turn.Do(s, fields, fuel)
	if (result{v, took, e}) != want {
		t.Errorf("Do(%v, %d, %d) = %d, %d, error %d, want %v", s, fields, fuel, v, took, e, want)
	}
	if e != api.ErrFuel {
		for _, more := range []int{took, took + 1, 1<<63 - 1} {
			if w, n, f := turn.Do(s, fields, more); w != v || n != took || f != e {
				t.Errorf("Do(%v, %d, %d) = %d, %d, error %d, with %d %d, %d, error %d", s, fields, fuel, v, took, e, more, w, n, f)
			}
		}
	}
	return want
}

// depth answers how many values code leaves, that fits.
func depth(code []turn.Op) int {
	n := 0
	for _, o := range code {
		takes, leaves, _ := effect(o.Op)
		n += len(leaves) - len(takes)
		switch o.Op {
		case api.Old, api.Dup:
			n++
		case api.Pop:
			n--
		}
	}
	return n
}

// P21.3, P21.5: code of any kind, most of which fits for long.
func TestRandomCode(t *testing.T) {
	pick := picker(rand.New(rand.NewPCG(21, 2)).IntN)
	came := map[api.Errno]int{}
	for range 20000 {
		fields := []int64{int64(pick(5) - 2), int64(pick(2)), 7, 1}[:pick(5)]
		var code []turn.Op
		l := allowed()
		for range 60 {
			o := turn.Op{Op: l[pick(len(l))]}
			switch o.Op {
			case api.Int:
				o.N = int64(pick(9) - 4)
			case api.Old:
				o.A = pick(len(fields) + 1)
			}
			if more := append(slices.Clone(code), o); len(code) < 2+pick(20) && (fitOf(more, len(fields)) == len(more) || pick(300) == 0) {
				code = more
			}
		}
		if pick(3) > 0 && fitOf(code, len(fields)) == len(code) {
			for range depth(code) - 1 {
				code = append(code, turn.Op{Op: api.Pop})
			}
		}
		e := holdDo(t, code, fields, pick(60)).e
		came[e]++
		if t.Failed() {
			t.FailNow()
		}
	}
	if came[api.OK] < 2000 || came[api.ErrFuel] < 2000 || came[api.ErrTurn] < 2000 {
		t.Errorf("errors %v came", came)
	}
}

// P21.1 to P21.5: whatever a bundle holds, no call panics; of those that can be each answers what the words say.
func FuzzTurns(f *testing.F) {
	f.Add(uint64(1), []byte{1, 0, 45, 1, 10, 0}, int8(9))
	f.Add(uint64(7), []byte("any code at all, with old fields -\x01\x02-\x03\x0f\x10\x11"), int8(3))
	f.Fuzz(func(t *testing.T, seed uint64, bytes []byte, fuel int8) {
		pick := picker(rand.New(rand.NewPCG(seed, 21)).IntN)
		old, now := pick.tables(t)
		x := pick.bundle(old, now)
		holdAll(t, pick, old, now, x)
		// Code of any kind, whose constants may not be there.
		var code []api.Ins
		var done []turn.Op
		for i := 0; i+1 < len(bytes) && i < 200; i += 2 {
			code = append(code, api.Ins{Op: int(bytes[i]) % (api.Ops + 1), A: int(int8(bytes[i+1]))})
			done = append(done, turn.Op{Op: int(bytes[i]) % (api.Ops + 1), A: int(int8(bytes[i+1])), N: int64(bytes[i+1])})
		}
		holdDo(t, done, []int64{3, 0, -1, 1}[:pick(5)], int(fuel))
		for i := range x.Turns {
			n := &x.Turns[i]
			for j := range n.Moves {
				if m := &n.Moves[j]; pick(2) == 0 {
					m.Code, m.Kind, m.From = code, pick(5)-1, pick.one("", "a0", "b1")
				}
			}
		}
		x.Turns = append(x.Turns, api.Turn{Class: "A", Moves: []api.Move{{Field: "a0", Kind: api.Made, Code: code}}}, api.Turn{Class: "none of these"})
		turn.Check(old, now, x)
		turn.Check(now, old, x)
		for _, class := range append(old.Names(), "E", "Z", "") {
			for _, s := range turn.Plan(old, now, x, class) {
				turn.Do(s, []int64{1, 2, 3}, int(fuel))
			}
		}
		turn.Moves(old, now, x)
	})
}
