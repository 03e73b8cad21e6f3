package hier_test

import (
	"slices"
	"strconv"
	"strings"
	"testing"

	"hornbook/api"
	"hornbook/hier"
)

// always are the classes that are there always, as the chapter tells them.
var always = []string{"Object", "Exc", "NullExc", "CastExc", "IndexExc", "DivExc", "StackExc", "MemExc", "LockExc"}

// one is a class of which just what plays a part stands.
func one(name, super string) api.Class {
	return api.Class{Name: name, Super: super}
}

// family is more than one class below more than one.
func family() []api.Class {
	return []api.Class{one("D", "B"), one("B", "A"), one("A", "Object"), one("C", "A"), one("E", "Exc"), one("F", "DivExc"), one("G", "F")}
}

// made answers a hierarchy that can be.
func made(t *testing.T, l ...api.Class) *hier.Hier {
	t.Helper()
	h, name, e := hier.New(l...)
	if h == nil || name != "" || e != api.OK {
		t.Fatalf("New(%v) = %v, %q, error %d", l, h != nil, name, e)
	}
	return h
}

// refused holds that New tells a class and an error, and nothing else.
func refused(t *testing.T, name string, e api.Errno, l ...api.Class) {
	t.Helper()
	h, gotName, gotE := hier.New(l...)
	if h != nil || gotName != name || gotE != e {
		t.Errorf("New(%.200q) = %v, %q, error %d, want %q, error %d", names(l), h != nil, gotName, gotE, name, e)
	}
}

// names are those of classes, each with the one above it.
func names(l []api.Class) []string {
	var out []string
	for _, c := range l {
		out = append(out, c.Name+"<"+c.Super)
	}
	return out
}

// P7.1 and P7.2: what is there always.
func TestClassesThatAreThereAlways(t *testing.T) {
	l := []string{hier.Object, hier.Exc, hier.Nil, hier.Cast, hier.Index, hier.Div, hier.Deep, hier.Mem, hier.Lock}
	if !slices.Equal(l, always) {
		t.Errorf("the names are %q", l)
	}
	h := made(t)
	if !slices.Equal(h.Names(), always) || !slices.Equal(h.Below("Object"), always) || !slices.Equal(h.Below("Exc"), always[1:]) {
		t.Errorf("Names %q, Below %q, %q", h.Names(), h.Below("Object"), h.Below("Exc"))
	}
	if s, ok := h.Super("Object"); s != "" || ok {
		t.Errorf("above Object: %q, %v", s, ok)
	}
	if s, ok := h.Super("Exc"); s != "Object" || !ok {
		t.Errorf("above Exc: %q, %v", s, ok)
	}
	for _, name := range always[2:] {
		s, ok := h.Super(name)
		if s != "Exc" || !ok || !slices.Equal(h.Chain(name), []string{name, "Exc", "Object"}) || !slices.Equal(h.Below(name), []string{name}) {
			t.Errorf("%s: above %q, %v, Chain %q, Below %q", name, s, ok, h.Chain(name), h.Below(name))
		}
	}
}

// P7.1: each error by hand, and which class it is told with.
func TestNewTellsTheFirstError(t *testing.T) {
	for _, name := range always {
		refused(t, name, api.ErrTwice, one("A", "Object"), one(name, "Object"))
		made(t, one("A", name))
	}
	refused(t, "A", api.ErrTwice, one("A", "Object"), one("A", "Object"))
	refused(t, "A", api.ErrTwice, one("A", "Object"), one("B", "Object"), one("A", "B"))
	refused(t, "B", api.ErrTwice, one("A", "Object"), one("B", "Object"), one("B", "Object"), one("A", "Object"))
	refused(t, "A", api.ErrNone, one("A", "Z"))
	refused(t, "A", api.ErrNone, one("A", ""))
	refused(t, "A", api.ErrNone, one("A", "a"))
	refused(t, "B", api.ErrNone, one("A", "B"), one("B", "Y"), one("C", "Z"))
	refused(t, "A", api.ErrLoop, one("A", "A"))
	refused(t, "A", api.ErrLoop, one("A", "B"), one("B", "A"))
	refused(t, "B", api.ErrLoop, one("B", "A"), one("A", "B"))
	refused(t, "C", api.ErrLoop, one("Object2", "Object"), one("C", "A"), one("A", "B"), one("B", "C"))
	// A class below those of a loop is not above itself.
	refused(t, "A", api.ErrLoop, one("D", "C"), one("C", "A"), one("A", "B"), one("B", "A"))
	refused(t, "A", api.ErrLoop, one("D", "A"), one("A", "A"))
	// One kind of error of all classes goes ahead of the next one.
	refused(t, "B", api.ErrTwice, one("A", "Z"), one("B", "B"), one("B", "Object"))
	refused(t, "Exc", api.ErrTwice, one("A", "A"), one("B", "Z"), one("Exc", "Object"))
	refused(t, "B", api.ErrNone, one("A", "A"), one("B", "Z"))
}

// P7.1: at the limit, and beyond it, whatever else there is.
func TestNewOfHowMany(t *testing.T) {
	var chain, flat []api.Class
	for i := range 40 {
		above := "Object"
		if i < 31 {
			above = "c" + strconv.Itoa(i+1)
		}
		chain = append(chain, one("c"+strconv.Itoa(i), above))
		flat = append(flat, one("f"+strconv.Itoa(i), "LockExc"))
	}
	for n := range 33 {
		if h := made(t, flat[:n]...); len(h.Names()) != 9+n || len(h.Below("Exc")) != 8+n {
			t.Errorf("of %d classes there are %q", n, h.Names())
		}
	}
	h := made(t, chain[:32]...)
	c := h.Chain("c0")
	if len(c) != 33 || c[0] != "c0" || c[31] != "c31" || c[32] != "Object" || len(h.Below("c31")) != 32 {
		t.Errorf("the Chain of the lowest is %q", c)
	}
	loop := slices.Clone(chain[:32])
	loop[31].Super = "c0"
	refused(t, "c0", api.ErrLoop, loop...)
	loop[31].Super = "c1"
	refused(t, "c1", api.ErrLoop, loop...)
	loop[31].Super = "c31"
	refused(t, "c31", api.ErrLoop, loop...)
	for n := 33; n <= 40; n++ {
		refused(t, "", api.ErrSize, flat[:n]...)
	}
	refused(t, "", api.ErrSize, make([]api.Class, 33)...)
	refused(t, "", api.ErrSize, slices.Repeat([]api.Class{one("Exc", "Z")}, 33)...)
	refused(t, "", api.ErrSize, make([]api.Class, 100000)...)
}

// model works out anew what a hierarchy is: of each class the one above it.
type model struct {
	names []string
	up    map[string]string
}

// modelOf works out anew what New answers.
func modelOf(l []api.Class) (model, string, api.Errno) {
	m := model{slices.Clone(always), map[string]string{"Exc": "Object"}}
	for _, name := range always[2:] {
		m.up[name] = "Exc"
	}
	if len(l) > 32 {
		return model{}, "", api.ErrSize
	}
	for _, c := range l {
		if _, ok := m.up[c.Name]; ok || c.Name == "Object" {
			return model{}, c.Name, api.ErrTwice
		}
		m.names, m.up[c.Name] = append(m.names, c.Name), c.Super
	}
	for _, c := range l {
		if _, ok := m.up[c.Super]; !ok && c.Super != "Object" {
			return model{}, c.Name, api.ErrNone
		}
	}
	for _, c := range l {
		above := map[string]bool{}
		for at := c.Super; at != "Object" && !above[at]; at = m.up[at] {
			above[at] = true
		}
		if above[c.Name] {
			return model{}, c.Name, api.ErrLoop
		}
	}
	return m, "", api.OK
}

// chain works out anew what Chain answers.
func (m model) chain(class string) []string {
	if !slices.Contains(m.names, class) {
		return nil
	}
	if class == "Object" {
		return []string{class}
	}
	return append([]string{class}, m.chain(m.up[class])...)
}

// holdClasses holds all that P7.2 says of a hierarchy.
func holdClasses(t *testing.T, h *hier.Hier, m model, others ...string) {
	t.Helper()
	if !slices.Equal(h.Names(), m.names) {
		t.Errorf("Names = %q, want %q", h.Names(), m.names)
	}
	for _, class := range append(others, m.names...) {
		chain, there := m.chain(class), slices.Contains(m.names, class)
		if h.Has(class) != there {
			t.Errorf("%q: Has(%q) = %v", m.up, class, !there)
		}
		if super, ok := h.Super(class); super != m.up[class] || ok != (there && class != "Object") {
			t.Errorf("%q: Super(%q) = %q, %v", m.up, class, super, ok)
		}
		if got := h.Chain(class); !slices.Equal(got, chain) {
			t.Errorf("%q: Chain(%q) = %q, want %q", m.up, class, got, chain)
		}
		var below []string
		for _, name := range m.names {
			if slices.Contains(m.chain(name), class) {
				below = append(below, name)
			}
		}
		if got := h.Below(class); !slices.Equal(got, below) {
			t.Errorf("%q: Below(%q) = %q, want %q", m.up, class, got, below)
		}
	}
}

// holdNew holds what New answers, and what the hierarchy does.
func holdNew(t *testing.T, l ...api.Class) {
	t.Helper()
	m, name, e := modelOf(l)
	if e != api.OK {
		refused(t, name, e, l...)
		return
	}
	holdClasses(t, made(t, l...), m, "Z", "", "object", "LA;", "A ")
}

// P7.1 and P7.2: all lists of up to three classes out of some, and all of four of which each has its name.
func TestNewOfAllLists(t *testing.T) {
	var some []api.Class
	for _, name := range []string{"A", "B", "C", "Exc"} {
		for _, super := range []string{"A", "B", "C", "Z", "Object", "DivExc"} {
			some = append(some, one(name, super))
		}
	}
	for i, a := range some {
		holdNew(t, a)
		for k, b := range some {
			holdNew(t, a, b)
			if (i+k)%2 == 0 {
				continue
			}
			for _, c := range some {
				holdNew(t, a, b, c)
			}
		}
	}
	supers := []string{"A", "B", "C", "D", "Z", "Object"}
	for n := range 6 * 6 * 6 * 6 {
		holdNew(t, one("A", supers[n%6]), one("B", supers[n/6%6]), one("C", supers[n/36%6]), one("D", supers[n/216]))
	}
}

// P7.1: texts that are no names, too; the class of no name is none that is above Object.
func TestNewOfAnyNames(t *testing.T) {
	long := strings.Repeat("n", 1<<20)
	l := []api.Class{one("", "A"), one("A", "Object"), one("a b", ""), one("LA;", "a b"), one("\xff\x00", "LA;"), one(long, "\xff\x00"), one("[", long), one("A;", "["), one("N", "A;"), one("9", "N")}
	holdNew(t, l...)
	h := made(t, l...)
	if s, ok := h.Super("Object"); s != "" || ok {
		t.Errorf("above Object: %q, %v", s, ok)
	}
	if c := h.Chain("9"); len(c) != 11 || c[9] != "A" || c[10] != "Object" {
		t.Errorf("the Chain of the lowest has %d", len(c))
	}
	for _, d := range []string{"L;", "La b;", "LLA;;", "L[;", "L9;", "LA;;", "[L;"} {
		if h.Known(d) || h.Sub(d, "LObject;") || h.Sub("N", d) {
			t.Errorf("%q is a type", d)
		}
	}
	// No class's things are those of the class of no name.
	for _, x := range [][2]string{{"[I", "S"}, {"S", "LA;"}, {"LA;", "[LA;"}} {
		if j, ok := h.Join(x[0], x[1]); j != "LObject;" || !ok {
			t.Errorf("Join(%q) = %q, %v", x, j, ok)
		}
	}
	refused(t, "", api.ErrTwice, one("", "Object"), one("", "Object"))
	refused(t, "", api.ErrNone, one("", long))
	refused(t, "", api.ErrLoop, one("", ""))
	refused(t, long, api.ErrLoop, one(long, long))
}

// P7.1: only Name and Super play a part.
func TestNewOfClassesThatCanNotBe(t *testing.T) {
	h := made(t, api.Class{Name: "A", Super: "B", Consts: make([]api.Const, 300), Fields: []api.Field{{Name: "9", Desc: "LZ;"}, {}}, Methods: []api.Method{{Name: "m", Sig: "?", Hand: make([]api.Hand, 9)}, {Name: "m"}}},
		api.Class{Name: "B", Super: "Object", Fields: make([]api.Field, 99)})
	if !slices.Equal(h.Chain("A"), []string{"A", "B", "Object"}) {
		t.Errorf("Chain = %q", h.Chain("A"))
	}
}

// P7.2, by hand.
func TestClassesOfTheFamily(t *testing.T) {
	h := made(t, family()...)
	if l := h.Names(); !slices.Equal(l, append(slices.Clone(always), "D", "B", "A", "C", "E", "F", "G")) {
		t.Errorf("Names = %q", l)
	}
	for class, chain := range map[string]string{"D": "D B A Object", "B": "B A Object", "A": "A Object", "C": "C A Object", "E": "E Exc Object", "F": "F DivExc Exc Object", "G": "G F DivExc Exc Object", "Object": "Object", "Z": "", "": "", "LA;": ""} {
		if got := strings.Join(h.Chain(class), " "); got != chain {
			t.Errorf("Chain(%q) = %q, want %q", class, got, chain)
		}
		_, rest, _ := strings.Cut(chain, " ")
		above, _, _ := strings.Cut(rest, " ")
		if s, ok := h.Super(class); s != above || ok != (above != "") || h.Has(class) != (chain != "") {
			t.Errorf("%q: Super %q, %v, Has %v", class, s, ok, h.Has(class))
		}
	}
	for class, below := range map[string]string{"A": "D B A C", "B": "D B", "D": "D", "Exc": "Exc NullExc CastExc IndexExc DivExc StackExc MemExc LockExc E F G", "DivExc": "DivExc F G", "Z": "", "": ""} {
		if got := strings.Join(h.Below(class), " "); got != below {
			t.Errorf("Below(%q) = %q, want %q", class, got, below)
		}
	}
}
