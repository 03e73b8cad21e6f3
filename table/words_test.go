package table_test

import (
	"reflect"
	"regexp"
	"slices"
	"testing"

	"hornbook/api"
	"hornbook/hier"
	"hornbook/klass"
	"hornbook/table"
)

// typeText is a type of a value; of a class's things the class's name is its part.
const typeText = `\[*(?:I|B|S|L([A-Za-z0-9_]+);)`

var each = regexp.MustCompile(typeText)

// classesIn answers the classes that types, one behind the other, name.
func classesIn(types string) []string {
	var l []string
	for _, parts := range each.FindAllStringSubmatch(types, -1) {
		if parts[1] != "" {
			l = append(l, parts[1])
		}
	}
	return l
}

// member is a field or a method of a class, and whose own it is.
type member struct{ name, is, class string }

// model works out anew what a table of classes has.
type model struct {
	h *hier.Hier
	l []api.Class
}

// class answers the class of a name, of those that were handed in.
func (m model) class(name string) (api.Class, bool) {
	for _, c := range m.l {
		if c.Name == name {
			return c, true
		}
	}
	return api.Class{}, false
}

// method answers a class's own method.
func (m model) method(class, name string) (api.Method, bool) {
	c, _ := m.class(class)
	for _, x := range c.Methods {
		if x.Name == name {
			return x, true
		}
	}
	return api.Method{}, false
}

// fields works out anew all fields of a class.
func (m model) fields(class string) []member {
	c, ok := m.class(class)
	if !ok {
		return nil
	}
	l := m.fields(c.Super)
	for _, f := range c.Fields {
		l = append(l, member{f.Name, f.Desc, class})
	}
	return l
}

// methods works out anew all methods of a class.
func (m model) methods(class string) []member {
	c, ok := m.class(class)
	if !ok {
		return nil
	}
	l := m.methods(c.Super)
	taken := map[string]bool{}
	for i, above := range l {
		if own, ok := m.method(class, above.name); ok {
			l[i], taken[own.Name] = member{own.Name, own.Sig, class}, true
		}
	}
	for _, own := range c.Methods {
		if !taken[own.Name] {
			l = append(l, member{own.Name, own.Sig, class})
		}
	}
	return l
}

// named answers the place of the first member of a name, and it.
func named(l []member, name string) (member, int) {
	for at, x := range l {
		if x.name == name {
			return x, at
		}
	}
	return member{}, -1
}

// deps works out anew what Deps answers.
func (m model) deps(class, name string) []string {
	c, _ := m.class(class)
	x, _ := m.method(class, name)
	var l []string
	for at, k := range c.Consts {
		used := slices.ContainsFunc(x.Code, func(i api.Ins) bool {
			switch i.Op {
			case api.Int, api.Str, api.New, api.Arr, api.Cast, api.Is, api.GetF, api.PutF, api.Call:
				return i.A == at
			}
			return false
		})
		switch {
		case !used:
		case k.Kind == api.CType:
			l = append(l, classesIn(k.S)...)
		case k.Kind == api.CField || k.Kind == api.CMeth:
			l = append(append(l, k.S), classesIn(k.U)...)
		}
	}
	for _, h := range x.Hand {
		l = append(l, h.Class)
	}
	var firsts []string
	for _, name := range l {
		if !slices.Contains(firsts, name) {
			firsts = append(firsts, name)
		}
	}
	return firsts
}

// there tells whether all classes that types name are there.
func (m model) there(types string) bool {
	for _, class := range classesIn(types) {
		if !m.h.Has(class) {
			return false
		}
	}
	return true
}

// fits works out anew the first error of a class among the others.
func (m model) fits(c api.Class) api.Errno {
	for _, f := range c.Fields {
		if !m.there(f.Desc) {
			return api.ErrDesc
		}
		if _, at := named(m.fields(c.Super), f.Name); at >= 0 {
			return api.ErrTwice
		}
	}
	if len(m.fields(c.Name)) > 16 {
		return api.ErrSize
	}
	for _, x := range c.Methods {
		if !m.there(x.Sig) {
			return api.ErrDesc
		}
		if above, at := named(m.methods(c.Super), x.Name); at >= 0 && above.is != x.Sig {
			return api.ErrOver
		}
	}
	if len(m.methods(c.Name)) > 32 {
		return api.ErrSize
	}
	return api.OK
}

// modelOf works out anew what New answers.
func modelOf(l []api.Class) (model, string, api.Errno) {
	h, name, e := hier.New(l...)
	if e != api.OK {
		return model{}, name, e
	}
	m := model{h, l}
	for _, c := range l {
		if e := klass.Right(c); e != api.OK {
			return model{}, c.Name, e
		}
	}
	for _, c := range l {
		if e := m.fits(c); e != api.OK {
			return model{}, c.Name, e
		}
	}
	return m, "", api.OK
}

// changed works out anew what Changed answers.
func (m model) changed(o model) []string {
	bare := func(l []member) []member {
		for i := range l {
			l[i].class = ""
		}
		return l
	}
	var l []string
	for _, class := range m.h.Names() {
		if o.h.Has(class) && !(slices.Equal(bare(m.fields(class)), bare(o.fields(class))) && slices.Equal(bare(m.methods(class)), bare(o.methods(class)))) {
			l = append(l, class)
		}
	}
	return l
}

// holdHas holds what a table says of all fields and methods of a class.
func holdHas(t *testing.T, x *table.Table, m model, class string, names []string) {
	t.Helper()
	var layout []api.Field
	for _, f := range m.fields(class) {
		layout = append(layout, api.Field{Name: f.name, Desc: f.is})
	}
	if got := x.Layout(class); !slices.Equal(got, layout) {
		t.Errorf("Layout(%s) = %v, want %v", class, got, layout)
	}
	var methods []table.Entry
	for _, e := range m.methods(class) {
		methods = append(methods, table.Entry{Name: e.name, Sig: e.is, Class: e.class})
	}
	if got := x.Methods(class); !slices.Equal(got, methods) {
		t.Errorf("Methods(%s) = %v, want %v", class, got, methods)
	}
	for _, name := range names {
		f, at := named(m.fields(class), name)
		if got, owner, gotAt := x.Field(class, name); got != (api.Field{Name: f.name, Desc: f.is}) || owner != f.class || gotAt != at {
			t.Errorf("Field(%s, %s) = %v, %q, %d, want %v, %d", class, name, got, owner, gotAt, f, at)
		}
		e, at := named(m.methods(class), name)
		if got, gotAt := x.Method(class, name); got != (table.Entry{Name: e.name, Sig: e.is, Class: e.class}) || gotAt != at {
			t.Errorf("Method(%s, %s) = %v, %d, want %v, %d", class, name, got, gotAt, e, at)
		}
		own, ok := m.method(class, name)
		if got, gotOk := x.Code(class, name); !reflect.DeepEqual(got, own) || gotOk != ok {
			t.Errorf("Code(%s, %s) = %v, %v, want %v, %v", class, name, got, gotOk, own, ok)
		}
		if got, want := x.Deps(class, name), m.deps(class, name); !slices.Equal(got, want) {
			t.Errorf("Deps(%s, %s) = %q, want %q", class, name, got, want)
		}
	}
}

// holdTable holds all that P8.2, P8.3 and P8.5 say of a table.
func holdTable(t *testing.T, x *table.Table, m model) {
	t.Helper()
	names := []string{"", "Z", "Object"}
	for _, c := range m.l {
		names = append(names, c.Name)
		for _, f := range c.Fields {
			names = append(names, f.Name)
		}
		for _, e := range c.Methods {
			names = append(names, e.Name)
		}
	}
	slices.Sort(names)
	names = slices.Compact(names)
	if got := x.Classes(); !slices.EqualFunc(got, m.l, klass.Same) {
		t.Errorf("Classes = %v, want %v", got, m.l)
	}
	if got := x.Hier().Names(); !slices.Equal(got, m.h.Names()) {
		t.Errorf("the hierarchy has %q, want %q", got, m.h.Names())
	}
	for _, class := range append(m.h.Names(), names...) {
		want, ok := m.class(class)
		if got, gotOk := x.Class(class); !klass.Same(got, want) || gotOk != ok {
			t.Errorf("Class(%s) = %v, %v, want %v, %v", class, got, gotOk, want, ok)
		}
		if got, want := x.Hier().Chain(class), m.h.Chain(class); !slices.Equal(got, want) {
			t.Errorf("the hierarchy's Chain(%s) = %q, want %q", class, got, want)
		}
		holdHas(t, x, m, class, names)
		super, _ := x.Hier().Super(class)
		for i, f := range x.Layout(super) {
			if x.Layout(class)[i] != f {
				t.Errorf("%s has not at %d what %s has", class, i, super)
			}
		}
		for i, e := range x.Methods(super) {
			if got := x.Methods(class)[i]; got.Name != e.Name || got.Sig != e.Sig {
				t.Errorf("%s has not at %d what %s has", class, i, super)
			}
		}
	}
}

// holdNew holds what New answers, and what the table does.
func holdNew(t *testing.T, l ...api.Class) (*table.Table, model, api.Errno) {
	t.Helper()
	m, name, e := modelOf(l)
	x, gotName, gotE := table.New(l...)
	if gotName != name || gotE != e || (x != nil) != (e == api.OK) {
		t.Errorf("New(%v) = %v, %q, error %d, want %q, error %d", l, x != nil, gotName, gotE, name, e)
	} else if e == api.OK {
		holdTable(t, x, m)
	}
	return x, m, e
}
