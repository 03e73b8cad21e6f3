package desc_test

import (
	"regexp"
	"slices"
	"strings"
	"testing"

	"hornbook/api"
	"hornbook/desc"
)

// What the words of the chapter say, as patterns.
const (
	valueText = `\[{0,4}(?:I|B|S|L[A-Za-z_][A-Za-z0-9_]{0,23};)`
	sigText   = `\((?:` + valueText + `){0,6}\)(?:` + valueText + `|V)`
)

var (
	value     = regexp.MustCompile(`^` + valueText + `\z`)
	someValue = regexp.MustCompile(valueText)
	sig       = regexp.MustCompile(`^` + sigText + `\z`)
)

// ofMost and overMost are the longest name, and one that is too long.
var (
	ofMost   = strings.Repeat("n", api.MaxName)
	overMost = strings.Repeat("n", api.MaxName+1)
)

// values are types of values of every kind, with every count of brackets.
func values() []string {
	var l []string
	for _, d := range []string{"I", "B", "S", "LA;", "LMain;", "L_1;", "LI;", "LV;", "LL;", "LObject;", "Lint;", "L" + ofMost + ";"} {
		for i := range api.MaxRank + 1 {
			l = append(l, strings.Repeat("[", i)+d)
		}
	}
	return l
}

// others are no types of values; V and N are among them.
func others() []string {
	return []string{
		"", "V", "N", "[", "[[[[", "[[[[[", "[V", "[N", "[[N", "[[[[[I", "[[[[[LA;", "[[[[[[S",
		"II", "IB", "I ", " I", "I[", "I[]", "i", "s", "A", "int", "[]I", "]I", "IV", "VI", "NN", "VV",
		"L", "LA", "L;", "LA;;", "LA;I", "LA;LB;", ";", "A;", "LA;[", "[L", "[LA", "[L;", "L1;", "LA-B;", "LA B;", "L A;", "LA ;", "L[A;", "Lé;", "LA\x00;",
		"L" + overMost + ";", "[L" + overMost + ";", "I\n", "LA;\n", "\xff", "[\x00",
		strings.Repeat("[", 1<<20), strings.Repeat("[", 1<<20) + "I", strings.Repeat("L", 1<<20), strings.Repeat("I", 1<<20),
	}
}

// short are all texts of up to so many of the letters.
func short(letters string, most int) []string {
	l := []string{""}
	for from := 0; most > 0; most-- {
		to := len(l)
		for _, s := range l[from:to] {
			for i := range len(letters) {
				l = append(l, s+letters[i:i+1])
			}
		}
		from = to
	}
	return l
}

// texts are all that the calls of one text are asked with.
func texts() []string {
	l := short("[IBSVNLA1;()", 4)
	return append(append(l, values()...), others()...)
}

func named(d string) string {
	if len(d) > 60 {
		return d[:60] + ".."
	}
	return d
}

// P2.1.
func TestRightAndRef(t *testing.T) {
	for _, d := range values() {
		if !desc.Right(d) {
			t.Errorf("Right(%q) is false", d)
		}
		if want := d != "I" && d != "B"; desc.Ref(d) != want {
			t.Errorf("Ref(%q) is not %v", d, want)
		}
	}
	for _, d := range others() {
		if desc.Right(d) {
			t.Errorf("Right(%q) is true", named(d))
		}
		if want := d == "N"; desc.Ref(d) != want {
			t.Errorf("Ref(%q) is not %v", named(d), want)
		}
	}
	for _, d := range texts() {
		right := value.MatchString(d)
		if desc.Right(d) != right {
			t.Errorf("Right(%q) is not %v", named(d), right)
		}
		if want := d == "N" || right && d != "I" && d != "B"; desc.Ref(d) != want {
			t.Errorf("Ref(%q) is not %v", named(d), want)
		}
	}
}

// P2.1.
func TestNameOfAClassInAType(t *testing.T) {
	for c := range 256 {
		for _, d := range []string{"L" + string([]byte{byte(c)}) + ";", "[LA" + string([]byte{byte(c)}) + ";"} {
			if want := value.MatchString(d); desc.Right(d) != want {
				t.Errorf("Right(%q) is not %v", d, want)
			}
		}
	}
	for n := range 60 {
		d := "L" + strings.Repeat("a", n) + ";"
		if want := n >= 1 && n <= 24; desc.Right(d) != want || desc.Right("[[[["+d) != want {
			t.Errorf("Right(%q) is not %v", d, want)
		}
	}
}

// P2.1: of any text.
func TestOf(t *testing.T) {
	for _, s := range []string{"Main", "", ";", "A;", "1", "int", "\xff\x00", ofMost, overMost, "[I", strings.Repeat("x", 5000)} {
		if d := desc.Of(s); d != "L"+s+";" {
			t.Errorf("Of(%q) = %q", named(s), named(d))
		}
	}
}

// P2.1.
func TestClass(t *testing.T) {
	for _, d := range texts() {
		want, ok := "", value.MatchString(d) && d[0] == 'L'
		if ok {
			want = strings.TrimSuffix(strings.TrimPrefix(d, "L"), ";")
		}
		if s, is := desc.Class(d); s != want || is != ok {
			t.Errorf("Class(%q) = %q, %v, want %q, %v", named(d), named(s), is, want, ok)
		}
	}
	for _, s := range []string{"A", "Main", "L", "I", "_", "null", ofMost} {
		if c, ok := desc.Class(desc.Of(s)); c != s || !ok {
			t.Errorf("Class of Of(%q) = %q, %v", s, c, ok)
		}
	}
	for _, s := range []string{"", "1", "A;", ";", "[A", "A B", overMost} {
		if c, ok := desc.Class(desc.Of(s)); c != "" || ok {
			t.Errorf("Class of Of(%q) = %q, %v", s, c, ok)
		}
	}
}

// P2.2.
func TestArray(t *testing.T) {
	for _, d := range texts() {
		want, wantE := "", api.ErrDesc
		if value.MatchString(d) {
			want, wantE = "["+d, api.OK
			if strings.HasPrefix(d, "[[[[") {
				want, wantE = "", api.ErrDeep
			}
		}
		if s, e := desc.Array(d); s != want || e != wantE {
			t.Errorf("Array(%q) = %q, %d, want %q, %d", named(d), named(s), e, want, wantE)
		}
	}
}

// P2.2.
func TestElem(t *testing.T) {
	for _, d := range texts() {
		want, wantE := "", api.ErrDesc
		if value.MatchString(d) && d[0] == '[' {
			want, wantE = d[1:], api.OK
		}
		if s, e := desc.Elem(d); s != want || e != wantE {
			t.Errorf("Elem(%q) = %q, %d, want %q, %d", named(d), named(s), e, want, wantE)
		}
	}
}

func holdSig(t *testing.T, want string, wantE api.Errno, gives string, takes ...string) {
	t.Helper()
	if s, e := desc.Sig(gives, takes...); s != want || e != wantE {
		t.Errorf("Sig(%q, %q) = %q, %d, want %q, %d", named(gives), takes, s, e, want, wantE)
	}
}

// P2.3.
func TestSigOfWhatCanBe(t *testing.T) {
	holdSig(t, "()V", api.OK, "V")
	holdSig(t, "()I", api.OK, "I")
	holdSig(t, "(I[LA;)V", api.OK, "V", "I", "[LA;")
	holdSig(t, "(BSILA;[[[[I[S)[[LB;", api.OK, "[[LB;", "B", "S", "I", "LA;", "[[[[I", "[S")
	for _, d := range values() {
		holdSig(t, "()"+d, api.OK, d)
		holdSig(t, "("+d+")V", api.OK, "V", d)
		holdSig(t, "(I"+d+"B)"+d, api.OK, d, "I", d, "B")
	}
}

// P2.3: how many there may be.
func TestSigOfManyTakes(t *testing.T) {
	for n := range 20 {
		takes := slices.Repeat([]string{"LA;"}, n)
		if n <= 6 {
			holdSig(t, "("+strings.Join(takes, "")+")V", api.OK, "V", takes...)
			continue
		}
		holdSig(t, "", api.ErrArg, "V", takes...)
		holdSig(t, "", api.ErrArg, "N", takes...)
		takes[0] = "V"
		holdSig(t, "", api.ErrArg, "V", takes...)
		holdSig(t, "", api.ErrArg, "?", takes...)
	}
}

// P2.3: what is no type of a value, at each place.
func TestSigOfWhatCanNotBe(t *testing.T) {
	for _, d := range others() {
		if d != "V" {
			holdSig(t, "", api.ErrDesc, d)
			holdSig(t, "", api.ErrDesc, d, "I", "S")
		}
		for n := range 6 {
			takes := slices.Repeat([]string{"I"}, 6)
			takes[n] = d
			holdSig(t, "", api.ErrDesc, "V", takes...)
			holdSig(t, "", api.ErrDesc, "V", takes[:n+1]...)
		}
	}
}

// P2.3: what is handed in stays as it was.
func TestSigChangesNothing(t *testing.T) {
	takes := []string{"I", "LA;", "[S", "rest"}
	kept := slices.Clone(takes)
	desc.Sig("V", takes[:3]...)
	desc.Sig("N", takes...)
	if !slices.Equal(takes, kept) {
		t.Errorf("takes became %q", takes)
	}
}

// splitByPattern works out anew what Split answers.
func splitByPattern(s string) (string, []string, api.Errno) {
	if !sig.MatchString(s) {
		return "", nil, api.ErrForm
	}
	end := strings.IndexByte(s, ')')
	return s[end+1:], someValue.FindAllString(s[1:end], -1), api.OK
}

func holdSplit(t *testing.T, s string) {
	t.Helper()
	want, wantL, wantE := splitByPattern(s)
	if g, l, e := desc.Split(s); g != want || !slices.Equal(l, wantL) || e != wantE {
		t.Errorf("Split(%q) = %q, %q, %d, want %q, %q, %d", named(s), named(g), l, e, want, wantL, wantE)
	}
}

// P2.3.
func TestSplitOfWhatCanBe(t *testing.T) {
	for s, want := range map[string][]string{
		"()V":                 {"V"},
		"()[[I":               {"[[I"},
		"(I)V":                {"V", "I"},
		"(I[LA;)V":            {"V", "I", "[LA;"},
		"(BLA;[S)I":           {"I", "B", "LA;", "[S"},
		"(LLI;LV;[[[[B)LS;":   {"LS;", "LLI;", "LV;", "[[[[B"},
		"(IIIIII)[LA;":        {"[LA;", "I", "I", "I", "I", "I", "I"},
		"([I[[I[[[I[[[[IIS)V": {"V", "[I", "[[I", "[[[I", "[[[[I", "I", "S"},
	} {
		if g, l, e := desc.Split(s); g != want[0] || !slices.Equal(l, want[1:]) || e != api.OK {
			t.Errorf("Split(%q) = %q, %q, %d", s, g, l, e)
		}
	}
}

// P2.3.
func TestSplitOfWhatCanNotBe(t *testing.T) {
	for _, s := range []string{
		"", "(", ")", "()", "V", "I", "I)V", "(I", "(IV", "(I)", "I()V", " ()V", "()V ", "()VV", "()II", "(I)VV", "()N", "()[V", "()[N", "()LA", "()[[[[[I", "()L" + overMost + ";",
		"(V)V", "(N)V", "([V)V", "([)V", "(I[)V", "(LA)V", "(L;)V", "(LA;;)V", "(L1;)V", "(L)V", "(LA)LB;", "(L" + overMost + ";)V", "([[[[[I)V", "(I,I)V", "(I I)V", "(i)V",
		"(IIIIIII)V", "(LA;LA;LA;LA;LA;LA;LA;)V", "(IIIIIIV)V", "(IIIIIIII)N", "((I)V", "(I))V", "(()V)V", "()()V", "()V()V", "()V\n", "(\xff)V",
		"(" + strings.Repeat("I", 1<<20) + ")V", "(" + strings.Repeat("L", 1<<20), "(" + strings.Repeat("[", 1<<20) + "I)V", "()" + strings.Repeat("I", 1<<20),
	} {
		if g, l, e := desc.Split(s); g != "" || len(l) != 0 || e != api.ErrForm {
			t.Errorf("Split(%q) = %q, %q, %d", named(s), named(g), l, e)
		}
	}
}

// P2.3.
func TestSplitOfAllShortTexts(t *testing.T) {
	for _, s := range short("(I[LA;)V", 6) {
		holdSplit(t, s)
	}
	for _, s := range short("I[LA;VN)", 4) {
		holdSplit(t, "("+s+")V")
		holdSplit(t, "()"+s)
		holdSplit(t, "(IIII"+s+")LA;")
	}
}

// P2.3; rule 4 of the document.
func TestSplitsShareNoMemory(t *testing.T) {
	const s = "(I[LA;B)V"
	_, first, _ := desc.Split(s)
	_, second, _ := desc.Split(s)
	for i := range first {
		first[i] = "!"
	}
	_ = append(first, "!", "!", "!")
	_, third, _ := desc.Split(s)
	for _, l := range [][]string{second, third} {
		if !slices.Equal(l, []string{"I", "[LA;", "B"}) {
			t.Errorf("Split(%q) takes %q", s, l)
		}
	}
}

// P2.4.
func TestShow(t *testing.T) {
	for d, want := range map[string]string{
		"I": "int", "B": "bool", "S": "str", "V": "unit", "N": "null",
		"LA;": "A", "LMain;": "Main", "LI;": "I", "LV;": "V", "LN;": "N", "Lint;": "int", "Lnull;": "null", "L" + ofMost + ";": ofMost,
		"[I": "int[]", "[[B": "bool[][]", "[[[S": "str[][][]", "[[[[LA;": "A[][][][]", "[[LA;": "A[][]", "[LV;": "V[]", "[Lunit;": "unit[]",
	} {
		if s := desc.Show(d); s != want {
			t.Errorf("Show(%q) = %q, want %q", d, s, want)
		}
	}
	for _, d := range others() {
		if s := desc.Show(d); d != "V" && d != "N" && s != "?" {
			t.Errorf("Show(%q) = %q", named(d), named(s))
		}
	}
	for _, d := range texts() {
		if s := desc.Show(d); (s == "?") == (value.MatchString(d) || d == "V" || d == "N") {
			t.Errorf("Show(%q) = %q", named(d), named(s))
		}
	}
}

// The chapter's constants.
func TestTypesThatHaveNoMoreToThem(t *testing.T) {
	if s := desc.Int + desc.Bool + desc.Str + desc.Unit + desc.Null; s != "IBSVN" {
		t.Errorf("they are %q", s)
	}
}

// P2.5.
func TestSplitOfSigIsWhatWasPutTogether(t *testing.T) {
	l := values()
	for i, gives := range append(values(), "V") {
		for n := range api.MaxArgs + 1 {
			var takes []string
			for k := range n {
				takes = append(takes, l[(7*i+11*k)%len(l)])
			}
			s, e := desc.Sig(gives, takes...)
			if e != api.OK {
				t.Fatalf("Sig(%q, %q): error %d", gives, takes, e)
			}
			if g, back, e := desc.Split(s); g != gives || !slices.Equal(back, takes) || e != api.OK {
				t.Errorf("Split(%q) = %q, %q, %d, want %q, %q", s, g, back, e, gives, takes)
			}
		}
	}
}

// P2.5.
func TestElemOfArrayIsTheType(t *testing.T) {
	for _, d := range values() {
		if strings.HasPrefix(d, "[[[[") {
			continue
		}
		a, e := desc.Array(d)
		if e != api.OK || !desc.Right(a) {
			t.Fatalf("Array(%q) = %q, %d", d, a, e)
		}
		if back, e := desc.Elem(a); back != d || e != api.OK {
			t.Errorf("Elem(%q) = %q, %d", a, back, e)
		}
	}
}

// P2.6: a word of the language is shown of its own type, and of the class that is called so, of nothing else.
func TestTypesThatAreShownAlikeAreOne(t *testing.T) {
	l := values()
	for _, s := range []string{"int", "bool", "str", "unit", "null", "I", "B", "S", "N", "ints", "inta", "A1"} {
		for i := range api.MaxRank + 1 {
			l = append(l, strings.Repeat("[", i)+desc.Of(s))
		}
	}
	slices.Sort(l)
	l = slices.Compact(l)
	shown := map[string][]string{}
	for _, d := range l {
		shown[desc.Show(d)] = append(shown[desc.Show(d)], d)
	}
	for s, types := range shown {
		if len(types) == 1 {
			continue
		}
		word := strings.TrimRight(s, "[]")
		if len(types) > 2 || !slices.Contains([]string{"int", "bool", "str"}, word) {
			t.Errorf("%q are all shown as %q", types, s)
		}
	}
}

// P2.1 to P2.5: no text makes them panic.
func FuzzTypes(f *testing.F) {
	for _, d := range []string{"I", "[[LA;", "(I[LA;)V", "(LA)V", "[[[[[I"} {
		f.Add(d)
	}
	f.Fuzz(func(t *testing.T, d string) {
		if desc.Right(d) != value.MatchString(d) {
			t.Errorf("Right(%q) is %v", d, desc.Right(d))
		}
		desc.Ref(d)
		desc.Class(d)
		desc.Show(d)
		if a, e := desc.Array(d); e == api.OK {
			if back, e := desc.Elem(a); back != d || e != api.OK {
				t.Errorf("Elem(%q) = %q, %d", a, back, e)
			}
		}
		holdSplit(t, d)
		if g, l, e := desc.Split(d); e == api.OK {
			holdSig(t, d, api.OK, g, l...)
		}
	})
}
