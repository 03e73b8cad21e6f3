package delta_test

import (
	"fmt"
	"math/rand/v2"
	"reflect"
	"slices"
	"strconv"
	"testing"

	"hornbook/api"
	"hornbook/asm"
	"hornbook/delta"
	"hornbook/klass"
	"hornbook/table"
)

// picker answers a number from 0 to below another one.
type picker func(below int) int

// one answers one of some texts.
func (pick picker) one(l ...string) string {
	return l[pick(len(l))]
}

// letters are the classes that there may be, each below one ahead.
const letters = "ABCDEF"

// mix puts what is in a list in any order.
func mix[T any](pick picker, l []T) {
	for i := range l {
		j := pick(i + 1)
		l[i], l[j] = l[j], l[i]
	}
}

// name answers the name of a class that there may be.
func (pick picker) name() string {
	at := pick(len(letters))
	return letters[at : at+1]
}

// super answers a class that one may stand below: mostly the same one.
func (pick picker) super(name string) string {
	switch name {
	case "A":
		return "Object"
	case "B", "C":
		return "A"
	case "D":
		return pick.one("B", "B", "B", "C")
	}
	return pick.one("A", "A", "Exc")
}

// ins answers an instruction.
func (pick picker) ins() string {
	class := pick.name()
	field := "f" + class
	switch pick(9) {
	case 0:
		return "int " + strconv.Itoa(pick(3))
	case 1:
		return "str s" + strconv.Itoa(pick(2))
	case 2:
		return pick.one("new", "cast", "is", "arr") + " " + pick.one("", "[") + "L" + class + ";"
	case 3:
		return pick.one("getf", "putf") + " " + class + "." + field + ":" + pick.one("I", "LA;")
	case 4:
		return "call " + class + ".m" + strconv.Itoa(pick(3)) + ":" + pick.one("()V", "(LA;)V", "()LB;")
	case 5:
		return "load " + strconv.Itoa(pick(2))
	case 6:
		return pick.one("pop", "add", "print")
	}
	return "nop"
}

// method writes one.
func (pick picker) method(c *asm.Class, name string) {
	text := "@a " + pick.ins()
	for range pick(3) {
		text += ", " + pick.ins()
	}
	var hand []string
	if pick(4) == 0 {
		hand = append(hand, "@a @b @b "+pick.one("Exc", "E", "F", "A"))
	}
	c.Method(name, "()V", 2+pick(6)/5, text+", @b retv", hand...)
}

// class writes one that may stand in a table.
func (pick picker) class(name string) *asm.Class {
	c := asm.New(name, pick.super(name))
	for i := range pick(3) {
		c.Fields = append(c.Fields, api.Field{Name: "f" + name + strconv.Itoa(i), Desc: pick.one("I", "B", "S", "LA;", "[[LA;")})
	}
	if pick(3) > 0 {
		// Constants that nobody uses, and others at other places.
		c.Ins("int " + strconv.Itoa(pick(3)))
		c.Ins("new L" + pick.name() + ";")
	}
	for i := range pick(4) {
		pick.method(c, "m"+strconv.Itoa(i))
	}
	return c
}

// classes answers some that may be a table's.
func (pick picker) classes(t testing.TB) []api.Class {
	var l []*asm.Class
	for at := range letters {
		if at < 4 || pick(4) > 0 {
			l = append(l, pick.class(letters[at:at+1]))
		}
	}
	mix(pick, l)
	return classesOf(t, l...)
}

// varied answers a class in which one thing is another.
func (pick picker) varied(t testing.TB, c api.Class) api.Class {
	a := &asm.Class{Class: deep(c)}
	if n := len(a.Methods); n > 0 && pick(3) > 0 {
		m := &a.Methods[pick(n)]
		switch pick(9) {
		case 0:
			m.Locals++
		case 1:
			m.Code[pick(len(m.Code)-1)] = a.Ins(pick.ins())
		case 2:
			m.Code = append(m.Code, api.Ins{Op: api.Nop})
		case 3:
			m.Hand = append(m.Hand, api.Hand{To: 1, Class: "Exc"})
		case 4:
			m.Hand = nil
		case 5:
			a.Methods = a.Methods[:n-1]
		case 6:
			for i, x := range m.Hand {
				x.Class = pick.one("Exc", "E")
				m.Hand[i] = x
			}
		default:
			turned(&a.Class)
		}
	} else if n := len(a.Fields); n > 0 && pick(3) == 0 {
		a.Fields = a.Fields[:n-1]
	} else if pick(3) == 0 {
		a.Fields = append(a.Fields, api.Field{Name: "g" + a.Name, Desc: "I"})
	} else if pick(2) == 0 {
		a.Super = pick.super(a.Name)
	} else if n := len(a.Methods); n == 0 || a.Methods[n-1].Name != "last" {
		pick.method(a, "last")
	}
	return classesOf(t, a)[0]
}

// turned has a class's constants stand in another order, and means the same.
func turned(c *api.Class) {
	slices.Reverse(c.Consts)
	for _, m := range c.Methods {
		for i, x := range m.Code {
			if of(c.Consts, x) != nil {
				m.Code[i].A = len(c.Consts) - 1 - x.A
			}
		}
	}
}

// deep answers a class in memory of its own.
func deep(c api.Class) api.Class {
	b, _ := klass.Put(c)
	c, _ = klass.Get(b)
	return c
}

// of answers the constant of an instruction, by chapter 4's words; nil, if it has none.
func of(l []api.Const, i api.Ins) *api.Const {
	switch i.Op {
	case api.Int, api.Str, api.New, api.Arr, api.Cast, api.Is, api.GetF, api.PutF, api.Call, api.Old:
		if i.A < 0 || i.A >= len(l) {
			return &api.Const{Kind: -1}
		}
		return &l[i.A]
	}
	return nil
}

// says answers all that a class's method does as a text; none, if there is no such method.
func says(c api.Class, name string) string {
	for _, m := range c.Methods {
		if m.Name != name {
			continue
		}
		text := fmt.Sprintf("%q %d %v;", m.Sig, m.Locals, append([]api.Hand{}, m.Hand...))
		for _, i := range m.Code {
			if k := of(c.Consts, i); k == nil {
				text += fmt.Sprintf(" %d %d;", i.Op, i.A)
			} else if k.Kind >= 0 {
				text += fmt.Sprintf(" %d of %#v;", i.Op, *k)
			} else {
				return ""
			}
		}
		return text
	}
	return ""
}

// heldOf works out anew what Held answers.
func heldOf(old, now *table.Table) []delta.Key {
	var l []delta.Key
	for _, c := range old.Classes() {
		for _, m := range c.Methods {
			other, _ := now.Class(c.Name)
			speaks := false
			for _, class := range old.Deps(c.Name, m.Name) {
				speaks = speaks || slices.Contains(old.Changed(now), class)
			}
			if speaks || says(c, m.Name) != says(other, m.Name) {
				l = append(l, key(c.Name, m.Name))
			}
		}
	}
	return l
}

// layoutsOf works out anew what Layouts answers.
func layoutsOf(old, now *table.Table) []string {
	var l []string
	for _, class := range old.Hier().Names() {
		if now.Hier().Has(class) && fmt.Sprint(old.Layout(class)) != fmt.Sprint(now.Layout(class)) {
			l = append(l, class)
		}
	}
	return l
}

// mergeOf works out anew what Merge answers.
func mergeOf(old []api.Class, x api.Bundle) ([]api.Class, string, api.Errno) {
	l := slices.Clone(old)
	for _, c := range x.Classes {
		at := slices.Index(names(old), c.Name)
		if at < 0 {
			l = append(l, c)
			continue
		}
		if old[at].Super != c.Super {
			return nil, c.Name, api.ErrSuper
		}
		l[at] = c
	}
	return l, "", api.OK
}

// holdFree holds P20.5: a method that is not held does the same in both, and each class that it speaks of has the same in both, if both have it.
func holdFree(t testing.TB, old, now *table.Table) int {
	t.Helper()
	free := 0
	l := delta.Held(old, now)
	for _, c := range old.Classes() {
		for _, m := range c.Methods {
			if slices.Contains(l, key(c.Name, m.Name)) {
				continue
			}
			free++
			other, _ := now.Class(c.Name)
			if !delta.Same(c, m.Name, other, m.Name) || !delta.Same(other, m.Name, c, m.Name) {
				t.Errorf("%s.%s is not held, and does not the same", c.Name, m.Name)
			}
			for _, class := range old.Deps(c.Name, m.Name) {
				if now.Has(class) && old.Has(class) && !(reflect.DeepEqual(old.Layout(class), now.Layout(class)) && reflect.DeepEqual(sigs(old, class), sigs(now, class))) {
					t.Errorf("%s.%s is not held, and speaks of %s", c.Name, m.Name, class)
				}
			}
		}
	}
	return free
}

// sigs answers the names and Sigs of a class's methods.
func sigs(x *table.Table, class string) []string {
	var l []string
	for _, m := range x.Methods(class) {
		l = append(l, m.Name+m.Sig)
	}
	return l
}

// holdTwo holds what is said of two tables.
func holdTwo(t testing.TB, old, now *table.Table) {
	t.Helper()
	if got, want := delta.Held(old, now), heldOf(old, now); !slices.Equal(got, want) {
		t.Errorf("Held = %v, want %v", got, want)
	}
	if got, want := delta.Layouts(old, now), layoutsOf(old, now); !slices.Equal(got, want) {
		t.Errorf("Layouts = %q, want %q", got, want)
	}
	holdFree(t, old, now)
	// P20.4.
	if l, m := delta.Held(old, old), delta.Layouts(now, now); len(l) > 0 || len(m) > 0 {
		t.Errorf("of a table and itself Held = %v, Layouts = %q", l, m)
	}
}

// holdSame holds Same of all methods of two lists of classes, and of some that there are not.
func holdSame(t testing.TB, l, m []api.Class) (same, other int) {
	t.Helper()
	of := []string{"", "m0", "m1", "m2", "last"}
	for _, a := range l {
		for _, b := range m {
			for _, n := range of {
				for _, o := range of {
					want := says(a, n) != "" && says(a, n) == says(b, o)
					if got := delta.Same(a, n, b, o); got != want {
						t.Errorf("Same(%v, %s, %v, %s) = %v", a, n, b, o, got)
					}
					if want {
						same++
					} else if says(a, n) != "" && says(b, o) != "" {
						other++
					}
				}
			}
		}
	}
	return same, other
}

// bundle answers one of classes of a list, most of them varied, and others.
func (pick picker) bundle(t testing.TB, l []api.Class) api.Bundle {
	var x api.Bundle
	for _, c := range l {
		if pick(3) == 0 {
			x.Classes = append(x.Classes, pick.varied(t, c))
		}
	}
	for _, name := range []string{"E", "F", "G"} {
		if pick(3) == 0 && !slices.Contains(names(x.Classes), name) {
			c := pick.class(name).Class
			if at := slices.Index(names(l), name); at >= 0 && pick(8) > 0 {
				c.Super = l[at].Super
			}
			x.Classes = append(x.Classes, c)
		}
	}
	mix(pick, x.Classes)
	return x
}

// P20.1 to P20.5: many tables, and others that came of them by bundles.
func TestRandomTables(t *testing.T) {
	pick := picker(rand.New(rand.NewPCG(20, 1)).IntN)
	merged, super, held, free, other, same, notSame := 0, 0, 0, 0, 0, 0, 0
	for range 1500 {
		l := pick.classes(t)
		old, _, e := table.New(l...)
		if e != api.OK {
			continue
		}
		x := pick.bundle(t, l)
		want, wantName, wantE := mergeOf(l, x)
		got, name, e := delta.Merge(old, x)
		if !slices.EqualFunc(got, want, klass.Same) || name != wantName || e != wantE {
			t.Errorf("Merge = %v, %q, error %d, want %v, %q, error %d", got, name, e, want, wantName, wantE)
		}
		s, o := holdSame(t, l, x.Classes)
		same, notSame = same+s, notSame+o
		if e == api.ErrSuper {
			super++
		}
		if now, _, e := table.New(got...); e == api.OK && len(x.Classes) > 0 {
			merged++
			holdTwo(t, old, now)
			holdTwo(t, now, old)
			held, free, other = held+len(delta.Held(old, now)), free+holdFree(t, old, now), other+len(delta.Layouts(old, now))
		}
		if next, _, e := table.New(pick.classes(t)...); e == api.OK {
			holdTwo(t, old, next)
		}
		if t.Failed() {
			t.Fatalf("of %v, %v", l, x)
		}
	}
	if merged < 300 || super < 50 || held < 300 || free < 300 || other < 100 || same < 500 || notSame < 5000 {
		t.Errorf("%d merged, %d below others, %d held, %d free, %d with other fields, %d the same, %d not", merged, super, held, free, other, same, notSame)
	}
}

// P20.1 to P20.5: of whatever classes and bundles.
func FuzzTables(f *testing.F) {
	f.Add(uint64(1), []byte{0, 1, 2, 3})
	f.Add(uint64(9), []byte("any code of any class, \x19\x00\x1a\x01"))
	f.Fuzz(func(t *testing.T, seed uint64, bytes []byte) {
		pick := picker(rand.New(rand.NewPCG(seed, 20)).IntN)
		l := pick.classes(t)
		x := pick.bundle(t, l)
		// Code of any kind, whose constants may not be there.
		var code []api.Ins
		for i := 0; i+1 < len(bytes) && i < 200; i += 2 {
			code = append(code, api.Ins{Op: int(bytes[i]) % (api.Ops + 1), A: int(int8(bytes[i+1]))})
		}
		odd := append(slices.Clone(l), x.Classes...)
		odd = append(odd, api.Class{Name: l[0].Name, Consts: l[0].Consts, Methods: []api.Method{{Name: "m0", Code: code}, {Name: "m1", Code: code, Locals: 1}}})
		holdSame(t, odd, odd)
		old, _, e := table.New(l...)
		if e != api.OK {
			return
		}
		got, name, e := delta.Merge(old, x)
		want, wantName, wantE := mergeOf(l, x)
		if !slices.EqualFunc(got, want, klass.Same) || name != wantName || e != wantE {
			t.Errorf("Merge = %v, %q, error %d, want %v, %q, error %d", got, name, e, want, wantName, wantE)
		}
		if now, _, e := table.New(got...); e == api.OK {
			holdTwo(t, old, now)
			holdTwo(t, now, old)
		}
		delta.Merge(old, api.Bundle{Classes: odd})
	})
}
