package link_test

import (
	"math/rand/v2"
	"slices"
	"strconv"
	"strings"
	"testing"

	"hornbook/api"
	"hornbook/desc"
	"hornbook/ins"
	"hornbook/kind"
	"hornbook/link"
	"hornbook/table"
	"hornbook/verify"
)

// things tells whether a type is one of things, by chapter 2's words.
func things(d string) bool {
	return d == "S" || d == "N" || strings.HasPrefix(d, "[") || strings.HasPrefix(d, "L")
}

// placesOf answers the places of types of things.
func placesOf(types []string) []int {
	var l []int
	for i, d := range types {
		if things(d) {
			l = append(l, i)
		}
	}
	return l
}

// random makes classes of programs.
type random struct {
	pick    *rand.Rand
	classes []api.Class
	bare    *table.Table
}

// one answers one of some texts.
func (r *random) one(l ...string) string {
	return l[r.pick.IntN(len(l))]
}

// desc answers a type of a value.
func (r *random) desc() string {
	class := r.classes[r.pick.IntN(len(r.classes))].Name
	return r.one("I", "B", "S", "LObject;", "LDivExc;", "[I", "[[S", "LA;", "L"+class+";", "[L"+class+";")
}

// family makes classes below each other, with fields, and methods some of which stand in the places of others.
func (r *random) family() {
	supers := []string{"Object", "Exc", "DivExc"}
	for i := range 1 + r.pick.IntN(6) {
		name := string(rune('A' + i))
		r.classes = append(r.classes, api.Class{Name: name, Super: r.one(supers...)})
		supers = append(supers, name, name)
	}
	methods := []api.Method{{Name: "run", Sig: "()V"}}
	for i := range 6 {
		var takes []string
		for range r.pick.IntN(4) {
			takes = append(takes, r.desc())
		}
		sig, _ := desc.Sig(r.one("V", "V", r.desc()), takes...)
		methods = append(methods, api.Method{Name: "m" + strconv.Itoa(i), Sig: sig})
	}
	for i := range r.classes {
		c := &r.classes[i]
		for j := range r.pick.IntN(4) {
			c.Fields = append(c.Fields, api.Field{Name: "f" + c.Name + strconv.Itoa(j), Desc: r.desc()})
		}
		for _, at := range r.pick.Perm(len(methods)) {
			if m := methods[at]; r.pick.IntN(3) == 0 {
				m.Locals, m.Code = 5+r.pick.IntN(3), []api.Ins{{Op: api.Jump}}
				c.Methods = append(c.Methods, m)
			}
		}
	}
	r.pick.Shuffle(len(r.classes), func(i, j int) { r.classes[i], r.classes[j] = r.classes[j], r.classes[i] })
}

// consts answers constants of all that there is, and of some that there is not.
func (r *random) consts() []api.Const {
	l := []api.Const{{Kind: api.CInt, N: 1}, {Kind: api.CInt, N: -7}, {Kind: api.CStr, S: "s"}, {Kind: api.CStr}, {Kind: api.CType, S: "[I"}, {Kind: api.CType, S: "LZ;"}, {Kind: api.CField, S: "Z", T: "f", U: "[S"}, {Kind: api.CMeth, S: "Z", T: "m", U: "(IS)V"}}
	for _, c := range r.classes {
		l = append(l, api.Const{Kind: api.CType, S: "L" + c.Name + ";"}, api.Const{Kind: api.CType, S: "[L" + c.Name + ";"})
		for _, f := range r.bare.Layout(c.Name) {
			l = append(l, api.Const{Kind: api.CField, S: c.Name, T: f.Name, U: f.Desc})
		}
		for _, m := range r.bare.Methods(c.Name) {
			l = append(l, api.Const{Kind: api.CMeth, S: c.Name, T: m.Name, U: m.Sig})
		}
	}
	r.pick.Shuffle(len(l), func(i, j int) { l[i], l[j] = l[j], l[i] })
	return l[:min(len(l), api.MaxPool)]
}

// ins answers an instruction that can be among these constants, in a code of so many instructions.
func (r *random) ins(consts []api.Const, locals, many int) api.Ins {
	for {
		x := api.Ins{Op: r.pick.IntN(api.Old)}
		if ins.Kind(x.Op) != ins.Plain {
			x.A = r.pick.IntN(max(len(consts), locals, many))
		}
		if _, e := ins.Check(append([]api.Ins{x}, make([]api.Ins, many-1)...), consts, locals); e == api.OK {
			return x
		}
	}
}

// code answers code that can be run: each instruction can be behind the one ahead, the last one comes to itself, and what stands behind it is not come to.
func (r *random) code(class string, consts []api.Const, m api.Method) []api.Ins {
	f, _ := kind.Start(class, m)
	gives, _, _ := desc.Split(m.Sig)
	many, dead := 2+r.pick.IntN(24), 1+r.pick.IntN(6)
	var l []api.Ins
	for range 40 * many {
		x := r.ins(consts, m.Locals, many)
		g, e := kind.Step(r.bare, consts, gives, x, f)
		if k := ins.Kind(x.Op); e != api.OK || len(l) == many-1 || k == ins.OfPlace || len(ins.Next([]api.Ins{x}, 0)) == 0 {
			continue
		}
		l, f = append(l, x), g
	}
	l = append(l, api.Ins{Op: api.Jump, A: len(l)})
	for range dead {
		l = append(l, r.ins(consts, m.Locals, len(l)))
	}
	return l
}

// randomProgram answers classes whose code can be run.
func randomProgram(t testing.TB, pick *rand.Rand) []api.Class {
	t.Helper()
	r := &random{pick: pick}
	r.family()
	r.bare = tableOf(t, r.classes...)
	for i := range r.classes {
		c := &r.classes[i]
		c.Consts = r.consts()
		for j := range c.Methods {
			c.Methods[j].Code = r.code(c.Name, c.Consts, c.Methods[j])
			if n := len(c.Methods[j].Code); pick.IntN(3) == 0 {
				c.Methods[j].Code = append(c.Methods[j].Code, api.Ins{Op: api.Throw})
				c.Methods[j].Hand = []api.Hand{{From: 0, To: 1 + pick.IntN(n), At: n, Class: r.one("Exc", "DivExc")}}
			}
		}
	}
	return r.classes
}

// opOf works out anew what an instruction is with its constant put in.
func opOf(x *table.Table, c api.Class, i api.Ins, top string) link.Op {
	o := link.Op{Op: i.Op}
	switch i.Op {
	case api.Load, api.Store, api.Jump, api.JumpT, api.JumpF:
		o.A = i.A
	case api.Int:
		o.N = c.Consts[i.A].N
	case api.Str, api.New, api.Arr, api.Cast, api.Is:
		o.S = c.Consts[i.A].S
	case api.GetF, api.PutF:
		k := c.Consts[i.A]
		o.A = slices.IndexFunc(x.Layout(k.S), func(f api.Field) bool { return f.Name == k.T })
		o.S = k.U
	case api.Call:
		k := c.Consts[i.A]
		_, takes, _ := desc.Split(k.U)
		o.A = slices.IndexFunc(x.Methods(k.S), func(m table.Entry) bool { return m.Name == k.T })
		o.B, o.S = len(takes)+1, k.U
	case api.Print:
		o.S = top
	}
	return o
}

// holdCode holds what P11.2 says of a method.
func holdCode(t *testing.T, x *table.Table, c api.Class, m api.Method, got link.Code) {
	t.Helper()
	gives, takes, _ := desc.Split(m.Sig)
	if got.Class != c.Name || got.Name != m.Name || got.Takes != len(takes)+1 || got.Gives != (gives != "V") || got.Locals != m.Locals || !slices.Equal(got.Hand, m.Hand) {
		t.Errorf("%s.%s %s: %v", c.Name, m.Name, m.Sig, got)
	}
	r, e := verify.Method(x, c.Name, m.Name)
	if e != api.OK || len(got.Ops) != len(m.Code) || len(got.Low) != len(m.Code) || len(got.High) != len(m.Code) {
		t.Errorf("%s.%s: error %d, %d, %d, %d of %d instructions", c.Name, m.Name, e, len(got.Ops), len(got.Low), len(got.High), len(m.Code))
		return
	}
	for at, i := range m.Code {
		f, top := r.At[at], ""
		if n := len(f.Stack); n > 0 {
			top = f.Stack[n-1]
		}
		if want := opOf(x, c, i, top); got.Ops[at] != want {
			t.Errorf("%s.%s at %d: %v, want %v", c.Name, m.Name, at, got.Ops[at], want)
		}
		if low, high := placesOf(f.Locals), placesOf(f.Stack); !slices.Equal(got.Low[at], low) || !slices.Equal(got.High[at], high) {
			t.Errorf("%s.%s at %d: Low %d, High %d, want %d, %d", c.Name, m.Name, at, got.Low[at], got.High[at], low, high)
		}
	}
}

// holdPlaces holds what P11.2 and P11.4 say of the methods of a class.
func holdPlaces(t *testing.T, x *table.Table, p *link.Prog, class string) {
	t.Helper()
	all := x.Methods(class)
	for place := -1; place <= len(all); place++ {
		want := -1
		if place >= 0 && place < len(all) {
			want = p.Own(all[place].Class, all[place].Name)
		}
		if got := p.Of(class, place); got != want {
			t.Errorf("Of(%s, %d) = %d, want %d", class, place, got, want)
		}
	}
	super, _ := x.Hier().Super(class)
	for place, m := range x.Methods(super) {
		above, _ := p.Code(p.Of(super, place))
		here, ok := p.Code(p.Of(class, place))
		own, _ := x.Code(here.Class, here.Name)
		if !ok || here.Name != above.Name || here.Takes != above.Takes || here.Gives != above.Gives || own.Sig != m.Sig || here.Class != class && here.Class != above.Class {
			t.Errorf("%s has %v at %d, where %s has %v", class, here, place, super, above)
		}
	}
}

// holdTypes holds what P11.3 says of types.
func holdTypes(t *testing.T, x *table.Table, p *link.Prog, y *link.Types) {
	t.Helper()
	for id := -1; id <= y.Len(); id++ {
		d := y.Name(id)
		want, there := link.Shape{}, false
		switch {
		case d == "S":
			want, there = link.Shape{Kind: link.Text}, true
		case !x.Hier().Known(d) || d == "I" || d == "B":
		case d[0] == '[':
			want, there = link.Shape{Kind: link.Array, All: things(d[1:])}, true
		default:
			var l []string
			for _, f := range x.Layout(d[1 : len(d)-1]) {
				l = append(l, f.Desc)
			}
			want, there = link.Shape{Kind: link.Thing, Size: len(l), Refs: placesOf(l)}, true
		}
		got, ok := p.Shape(id)
		if ok != there || got.Kind != want.Kind || got.Size != want.Size || got.All != want.All || !slices.Equal(got.Refs, want.Refs) {
			t.Errorf("Shape of %q = %v, %v, want %v, %v", d, got, ok, want, there)
		}
		for other := range y.Len() {
			if b := y.Name(other); p.Sub(id, b) != x.Hier().Sub(d, b) {
				t.Errorf("Sub of %q and %q = %v", d, b, p.Sub(id, b))
			}
		}
	}
}

// holdProg holds all that the chapter says of a program.
func holdProg(t *testing.T, x *table.Table, p *link.Prog, y *link.Types) {
	t.Helper()
	id := 0
	for _, c := range x.Classes() {
		for _, m := range c.Methods {
			got, ok := p.Code(id)
			if !ok || p.Own(c.Name, m.Name) != id {
				t.Errorf("Own(%s, %s) = %d, want %d", c.Name, m.Name, p.Own(c.Name, m.Name), id)
			}
			holdCode(t, x, c, m, got)
			id++
		}
	}
	if _, ok := p.Code(id); ok || p.Codes() != id {
		t.Errorf("Codes = %d, want %d", p.Codes(), id)
	}
	for _, class := range append(x.Hier().Names(), "Z", "") {
		holdPlaces(t, x, p, class)
		for _, name := range []string{"m0", "m1", "m2", "m3", "m4", "m5", "run", "Z", ""} {
			if _, own := x.Code(class, name); own != (p.Own(class, name) >= 0) {
				t.Errorf("Own(%s, %s) = %d", class, name, p.Own(class, name))
			}
		}
	}
	holdTypes(t, x, p, y)
}

// P11.1 to P11.5: of many programs, with the same types.
func TestRandomPrograms(t *testing.T) {
	pick := rand.New(rand.NewPCG(11, 11))
	y := link.NewTypes()
	var asked []string
	above, ops := 0, map[int]int{}
	for range 150 {
		l := randomProgram(t, pick)
		x := tableOf(t, l...)
		p, e := link.New(x, y)
		if e != api.OK {
			t.Fatalf("New: error %d", e)
		}
		r := &random{pick: pick, classes: l}
		for range 2 {
			d := r.one(r.desc(), r.desc(), "N", "V", "LZ;", "[LZ;", strings.Repeat("[", pick.IntN(6))+r.desc())
			if y.Id(d) == len(asked) {
				asked = append(asked, d)
			}
		}
		holdProg(t, x, p, y)
		// What was made with types, or asked of them, gives no type another number.
		for id, d := range asked {
			if y.Name(id) != d || y.Id(d) != id || p.Types().Id(d) != id {
				t.Errorf("the number %d is of %q, want %q", id, y.Name(id), d)
			}
		}
		if y.Len() != len(asked) {
			t.Errorf("Len = %d, want %d", y.Len(), len(asked))
		}
		for id := range p.Codes() {
			c, _ := p.Code(id)
			for _, o := range c.Ops {
				ops[o.Op]++
			}
		}
		for _, c := range l {
			for place := range x.Methods(c.Super) {
				if p.Of(c.Name, place) != p.Of(c.Super, place) {
					above++
				}
			}
		}
		if t.Failed() {
			t.Fatalf("of %v", l)
		}
	}
	for op := range api.Old {
		if ops[op] < 20 {
			t.Errorf("just %d %s were linked", ops[op], ins.Name(op))
		}
	}
	if above < 50 {
		t.Errorf("just %d methods stand in the places of others", above)
	}
}

// P11.2, P11.3, rule 6 of the document: two programs of a table, with other types, are the same, but for the types' numbers.
func TestProgramsBesideEachOther(t *testing.T) {
	pick := rand.New(rand.NewPCG(11, 12))
	for range 30 {
		x := tableOf(t, randomProgram(t, pick)...)
		y, z := link.NewTypes(), link.NewTypes()
		p, _ := link.New(x, y)
		q, _ := link.New(x, z)
		y.Id("LA;")
		z.Id("I")
		if q.Types().Id("LA;") != 1 || p.Types().Id("I") != 1 {
			t.Error("types of programs are not their own")
		}
		holdProg(t, x, p, y)
		holdProg(t, x, q, z)
	}
}

// P11.2: no code makes New panic; what verify.All lets through is linked, and nothing else.
func FuzzNew(f *testing.F) {
	f.Add([]byte{6, 0, 25, 5, 8, 0, 34, 0}, byte(0))
	f.Add([]byte{2, 1, 40, 0, 34, 0, 40, 0, 25, 12}, byte(1))
	f.Add([]byte{6, 1, 6, 2, 29, 0, 40, 0, 34, 0, 32, 14, 32, 15}, byte(2))
	f.Fuzz(func(t *testing.T, bytes []byte, sig byte) {
		m := api.Method{Name: "m", Sig: []string{"()V", "(I)V", "([II)V", "(B)I", "()S"}[int(sig)%5], Locals: 5}
		for i := 0; i+1 < len(bytes) && len(m.Code) < api.MaxCode; i += 2 {
			m.Code = append(m.Code, api.Ins{Op: int(bytes[i]) % api.Old, A: int(bytes[i+1])})
		}
		x, _, e := table.New(family(t, m)...)
		if e != api.OK {
			return
		}
		y := link.NewTypes()
		p, e := link.New(x, y)
		if _, _, want := verify.All(x); e != want || (p != nil) != (want == api.OK) {
			t.Fatalf("New = %v, error %d, want error %d", p != nil, e, want)
		}
		if e == api.OK {
			y.Id("LT;")
			holdProg(t, x, p, y)
		}
	})
}
