package hier_test

import (
	"reflect"
	"regexp"
	"slices"
	"strings"
	"testing"

	"hornbook/api"
	"hornbook/hier"
)

// What chapter 2 says of types of values, as a pattern: the brackets, and a class's name.
var value = regexp.MustCompile(`^(\[{0,4})(?:I|B|S|L([A-Za-z_][A-Za-z0-9_]{0,23});)\z`)

// types are of each kind: known ones, such of classes that there are not, and what are none.
func types() []string {
	return []string{"I", "B", "S", "N", "V", "", "LA;", "LB;", "LC;", "LD;", "LE;", "LF;", "LG;", "LExc;", "LDivExc;", "LMemExc;", "LObject;", "LZ;", "La;",
		"[I", "[B", "[S", "[LA;", "[LB;", "[LObject;", "[LZ;", "[[I", "[[LA;", "[[[[I", "[[[[LB;", "[[[[LZ;", "[[[[[I", "[[[[[LA;",
		"[", "[V", "[N", "L;", "A", "LA", "LA;;", "LA;I", "II", "Object", "[Object", "LN;", "LI;", "()V", "\xff", "LA\x00;"}
}

// known works out anew what Known answers.
func (m model) known(d string) bool {
	parts := value.FindStringSubmatch(d)
	return parts != nil && (parts[2] == "" || slices.Contains(m.names, parts[2]))
}

// class is that of whose things a type is, or "".
func (m model) class(d string) string {
	if parts := value.FindStringSubmatch(d); parts != nil && parts[1] == "" {
		return parts[2]
	}
	return ""
}

// stands works out anew what Sub answers.
func (m model) stands(a, b string) bool {
	for _, d := range []string{a, b} {
		if d != "N" && !m.known(d) {
			return false
		}
	}
	things := func(d string) bool { return d != "I" && d != "B" }
	switch {
	case a == b:
		return true
	case b == "LObject;":
		return things(a)
	case a == "N":
		return things(b)
	}
	return m.class(a) != "" && m.class(b) != "" && slices.Contains(m.chain(m.class(a)), m.class(b))
}

// P7.3: each type, among few classes and many.
func TestKnown(t *testing.T) {
	for _, l := range [][]api.Class{nil, family(), {one("I", "Object"), one("N", "I"), one("Z", "Exc")}} {
		h := made(t, l...)
		m, _, _ := modelOf(l)
		for _, d := range types() {
			if h.Known(d) != m.known(d) {
				t.Errorf("Known(%q) = %v among %q", d, h.Known(d), names(l))
			}
		}
	}
	h := made(t, family()...)
	for _, d := range []string{"I", "B", "S", "LA;", "[[[[LA;", "LObject;", "[LLockExc;"} {
		if !h.Known(d) {
			t.Errorf("%q is not known", d)
		}
	}
	for _, d := range []string{"N", "V", "", "LZ;", "[LZ;", "[[[[LZ;", "[[[[[LA;", "[[[[[I", "[N", "A", strings.Repeat("[", 1<<20)} {
		if h.Known(d) {
			t.Errorf("%.30q is known", d)
		}
	}
}

// P7.3: of each type, by hand, those that can stand for it.
func TestSubOfTheFamily(t *testing.T) {
	h := made(t, family()...)
	for b, want := range map[string]string{
		"I": "I", "B": "B", "S": "S N", "N": "N", "V": "", "": "",
		"LA;": "N LA; LB; LC; LD;", "LB;": "N LB; LD;", "LC;": "N LC;", "LD;": "N LD;",
		"LE;": "N LE;", "LF;": "N LF; LG;", "LDivExc;": "N LF; LG; LDivExc;", "LExc;": "N LE; LF; LG; LExc; LDivExc; LMemExc;",
		"LObject;": "S N LA; LB; LC; LD; LE; LF; LG; LExc; LDivExc; LMemExc; LObject; [I [B [S [LA; [LB; [LObject; [[I [[LA; [[[[I [[[[LB;",
		"LZ;":      "", "[LZ;": "", "[[[[LZ;": "",
		"[I": "N [I", "[LA;": "N [LA;", "[LObject;": "N [LObject;", "[[LA;": "N [[LA;", "[[[[I": "N [[[[I", "[[[[[I": "", "[N": "", "Object": "",
	} {
		var got []string
		for _, a := range types() {
			if h.Sub(a, b) {
				got = append(got, a)
			}
		}
		if strings.Join(got, " ") != want {
			t.Errorf("for %q can stand %q, want %q", b, got, want)
		}
	}
}

// P7.3, by hand, either way round; the chapter's example is among them.
func TestJoinOfTheFamily(t *testing.T) {
	h := made(t, family()...)
	for _, x := range [][3]string{
		{"LB;", "LC;", "LA;"}, {"LD;", "LC;", "LA;"}, {"LD;", "LB;", "LB;"}, {"LD;", "LA;", "LA;"}, {"LB;", "LE;", "LObject;"}, {"LB;", "LObject;", "LObject;"},
		{"LE;", "LF;", "LExc;"}, {"LG;", "LF;", "LF;"}, {"LG;", "LMemExc;", "LExc;"}, {"LG;", "LDivExc;", "LDivExc;"}, {"LG;", "LD;", "LObject;"},
		{"[I", "LB;", "LObject;"}, {"N", "[I", "[I"}, {"N", "LD;", "LD;"}, {"N", "S", "S"}, {"N", "LObject;", "LObject;"}, {"N", "[[[[LB;", "[[[[LB;"},
		{"[I", "[B", "LObject;"}, {"[LA;", "[LB;", "LObject;"}, {"[LA;", "[[LA;", "LObject;"}, {"[LObject;", "[LB;", "LObject;"}, {"S", "LA;", "LObject;"}, {"S", "[I", "LObject;"}, {"S", "[S", "LObject;"},
		{"I", "I", "I"}, {"B", "B", "B"}, {"S", "S", "S"}, {"N", "N", "N"}, {"LA;", "LA;", "LA;"}, {"[LA;", "[LA;", "[LA;"}, {"LObject;", "LObject;", "LObject;"},
		{"I", "N", ""}, {"I", "B", ""}, {"I", "S", ""}, {"I", "LObject;", ""}, {"B", "LA;", ""}, {"I", "[I", ""}, {"B", "N", ""},
		{"V", "V", ""}, {"V", "I", ""}, {"", "", ""}, {"N", "V", ""}, {"LA;", "V", ""}, {"A", "A", ""}, {"[[[[[I", "[[[[[I", ""},
		{"LZ;", "LZ;", ""}, {"LZ;", "LA;", ""}, {"LZ;", "LObject;", ""}, {"LZ;", "N", ""}, {"LZ;", "I", ""},
	} {
		for _, y := range [][2]string{{x[0], x[1]}, {x[1], x[0]}} {
			if j, ok := h.Join(y[0], y[1]); j != x[2] || ok != (x[2] != "") {
				t.Errorf("Join(%q) = %q, %v, want %q", y, j, ok, x[2])
			}
		}
	}
}

// holdPair holds what P7.3 and P7.5 say of two types.
func holdPair(t *testing.T, h *hier.Hier, m model, a, b string) {
	t.Helper()
	if h.Known(a) != m.known(a) {
		t.Errorf("Known(%q) = %v", a, h.Known(a))
	}
	if h.Sub(a, b) != m.stands(a, b) {
		t.Errorf("Sub(%q, %q) = %v", a, b, h.Sub(a, b))
	}
	// Of all types that there are, the least for one of which both can stand.
	least := ""
	for _, d := range append(types(), a, b) {
		if m.stands(a, d) && m.stands(b, d) && (least == "" || m.stands(d, least)) {
			least = d
		}
	}
	if j, ok := h.Join(a, b); j != least || ok != (least != "") {
		t.Errorf("Join(%q, %q) = %q, %v, want %q", a, b, j, ok, least)
	}
}

// P7.3 to P7.5, of each three types: an order, and its least.
func TestSubIsAnOrderAndJoinItsLeast(t *testing.T) {
	h := made(t, family()...)
	m, _, _ := modelOf(family())
	for _, a := range types() {
		if h.Sub(a, a) != (h.Known(a) || a == "N") {
			t.Errorf("Sub(%q, itself) = %v", a, h.Sub(a, a))
		}
		for _, b := range types() {
			holdPair(t, h, m, a, b)
			j, ok := h.Join(a, b)
			if ok && (!h.Sub(a, j) || !h.Sub(b, j)) {
				t.Errorf("not both %q and %q stand for their Join %q", a, b, j)
			}
			for _, c := range types() {
				if h.Sub(a, b) && h.Sub(b, c) && !h.Sub(a, c) {
					t.Errorf("%q stands for %q, that for %q", a, b, c)
				}
				if h.Sub(a, c) && h.Sub(b, c) && (!ok || !h.Sub(j, c)) {
					t.Errorf("%q and %q stand for %q, their Join %q, %v does not", a, b, c, j, ok)
				}
			}
		}
	}
}

// P7.2 and P7.3: of nil none, false.
func TestOfNil(t *testing.T) {
	var h *hier.Hier
	if len(h.Names()) != 0 {
		t.Errorf("Names = %q", h.Names())
	}
	for _, a := range append(types(), "A", "Exc") {
		s, ok := h.Super(a)
		if h.Has(a) || s != "" || ok || len(h.Chain(a)) != 0 || len(h.Below(a)) != 0 || h.Known(a) {
			t.Errorf("%q is there", a)
		}
		for _, b := range types() {
			if j, ok := h.Join(a, b); h.Sub(a, b) || j != "" || ok {
				t.Errorf("%q, %q: Sub %v, Join %q, %v", a, b, h.Sub(a, b), j, ok)
			}
		}
	}
}

// Rules 4 and 5 of the document.
func TestAnswersShareNoMemory(t *testing.T) {
	l := append(make([]api.Class, 0, 50), family()...)
	kept := slices.Clone(l)
	h := made(t, l...)
	if !reflect.DeepEqual(l, kept) || !reflect.DeepEqual(l[:cap(l)][len(l):], make([]api.Class, cap(l)-len(l))) {
		t.Error("New changed what was handed in")
	}
	clear(l)
	m, _, _ := modelOf(kept)
	holdClasses(t, h, m, "")
	for _, get := range []func() []string{h.Names, func() []string { return h.Chain("G") }, func() []string { return h.Below("Exc") }, func() []string { return h.Below("Object") }} {
		wanted := slices.Clone(get())
		first := get()
		_ = append(first, "behind")
		second := get()
		_ = append(first, "behind again")
		for i := range first {
			first[i] = "spoilt"
		}
		if !slices.Equal(second, wanted) || !slices.Equal(get(), wanted) {
			t.Errorf("%q shares memory", wanted)
		}
	}
	_ = append(h.Names(), "behind")
	holdClasses(t, h, m, "behind", "spoilt")
}

// P7.1 and P7.2: no names make a call panic, or hold otherwise than the words say.
func FuzzNew(f *testing.F) {
	f.Add("A B C", "Object A Object")
	f.Add("A B C D E F", "B C A A Z Exc")
	f.Add(" Exc", "Object Object")
	f.Fuzz(func(t *testing.T, names, supers string) {
		above := strings.Split(supers, " ")
		var l []api.Class
		for i, name := range strings.Split(names, " ") {
			l = append(l, one(name, above[i%len(above)]))
		}
		holdNew(t, l...)
	})
}

// P7.3: no texts make a call panic, or hold otherwise than the words say.
func FuzzTypes(f *testing.F) {
	for _, a := range types() {
		f.Add(a, "LObject;")
		f.Add("N", a)
	}
	h, _, _ := hier.New(family()...)
	m, _, _ := modelOf(family())
	f.Fuzz(func(t *testing.T, a, b string) {
		holdPair(t, h, m, a, b)
		holdPair(t, h, m, b, a)
	})
}
