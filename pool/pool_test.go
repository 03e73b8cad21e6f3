package pool_test

import (
	"bytes"
	"math"
	"regexp"
	"slices"
	"strconv"
	"strings"
	"testing"

	"hornbook/api"
	"hornbook/bin"
	"hornbook/pool"
)

// What the words of the chapters say of texts, as patterns.
const (
	nameText  = `[A-Za-z_][A-Za-z0-9_]{0,23}`
	valueText = `\[{0,4}(?:I|B|S|L` + nameText + `;)`
)

var (
	name  = regexp.MustCompile(`^` + nameText + `\z`)
	value = regexp.MustCompile(`^` + valueText + `\z`)
	sig   = regexp.MustCompile(`^\((?:` + valueText + `){0,6}\)(?:` + valueText + `|V)\z`)
)

// longName and longSig are the longest that can be.
var (
	longName = strings.Repeat("n", 24)
	longType = "[[[[L" + longName + ";"
	longSig  = "(" + strings.Repeat(longType, 6) + ")" + longType
)

func ofInt(n int64) api.Const          { return api.Const{Kind: api.CInt, N: n} }
func ofStr(s string) api.Const         { return api.Const{Kind: api.CStr, S: s} }
func ofType(s string) api.Const        { return api.Const{Kind: api.CType, S: s} }
func ofField(s, t, u string) api.Const { return api.Const{Kind: api.CField, S: s, T: t, U: u} }
func ofMeth(s, t, u string) api.Const  { return api.Const{Kind: api.CMeth, S: s, T: t, U: u} }

// rights can be; no two are alike.
func rights() []api.Const {
	l := []api.Const{ofInt(0), ofInt(1), ofInt(-1), ofInt(5), ofInt(300), ofInt(math.MaxInt64), ofInt(math.MinInt64)}
	for _, s := range []string{"", "hi", "I", "LA;", "A", "\x00\xff\x80\n", "grün", strings.Repeat("x", 63), strings.Repeat("x", 64), strings.Repeat("\xff", 64)} {
		l = append(l, ofStr(s))
	}
	for _, s := range []string{"I", "B", "S", "LA;", "[I", "[[B", "[[[S", "[[[[LA;", "LObject;", longType} {
		l = append(l, ofType(s), ofField("A", "x", s), ofMeth("A", "m", "("+s+")V"), ofMeth("A", "m", "()"+s))
	}
	return append(l,
		ofField("B", "x", "I"), ofField("A", "y", "I"), ofField("x", "A", "I"), ofField("_1", "int", "S"), ofField(longName, longName, longType),
		ofMeth("A", "m", "()V"), ofMeth("B", "m", "()V"), ofMeth("A", "n", "()V"), ofMeth("m", "A", "()V"), ofMeth("A", "m", "(IIIIII)V"), ofMeth("A", "m", "(I[LA;)V"),
		ofMeth(longName, longName, longSig))
}

// wrongs can not be.
func wrongs() []api.Const {
	l := []api.Const{{}, {N: 1}, {S: "hi"}, {S: "A", T: "x", U: "I"}}
	for _, kind := range []int{0, 6, 7, -1, -5, 255, 257, 258, 1 << 32, 1<<32 + 1, math.MaxInt, math.MinInt, math.MinInt + 1} {
		l = append(l, api.Const{Kind: kind}, api.Const{Kind: kind, N: 5}, api.Const{Kind: kind, S: "I"},
			api.Const{Kind: kind, S: "A", T: "x", U: "I"}, api.Const{Kind: kind, S: "A", T: "m", U: "()V"})
	}
	for _, c := range []api.Const{ofInt(0), ofInt(7)} {
		l = append(l, with(c, 'S', "x"), with(c, 'S', "I"), with(c, 'T', "x"), with(c, 'U', "I"), with(c, 'U', "\x00"))
	}
	for _, c := range []api.Const{ofStr(""), ofStr("hi"), ofType("I"), ofType("LA;")} {
		l = append(l, with(c, 'T', "x"), with(c, 'U', "I"), with(c, 'U', "()V"), withN(c, 1), withN(c, -1), withN(c, math.MinInt64))
	}
	for _, c := range []api.Const{ofField("A", "x", "I"), ofMeth("A", "m", "()V")} {
		l = append(l, withN(c, 1), withN(c, -1), withN(c, math.MaxInt64))
		for _, s := range []string{"", "1", "9a", "a b", "A;", "LA;", "é", "\x00", "a-b", longName + "n", strings.Repeat("n", 1<<20)} {
			l = append(l, with(c, 'S', s), with(c, 'T', s), with(with(c, 'S', s), 'T', s))
		}
	}
	for _, s := range []string{strings.Repeat("x", 65), strings.Repeat("x", 256), strings.Repeat("x", 1<<20)} {
		l = append(l, ofStr(s))
	}
	for _, s := range []string{"", "V", "N", "[", "[V", "[N", "II", "A", "int", "LA", "L;", "L1;", "LA;;", "[[[[[I", "()V", "(I)I", "L" + longName + "n;", strings.Repeat("[", 1<<20) + "I"} {
		l = append(l, ofType(s), ofField("A", "x", s), ofMeth("A", "m", "("+s+")X"), ofMeth("A", "m", s+"I"))
	}
	for _, s := range []string{"", "I", "V", "LA;", "()", "(", ")V", "(I)", "(V)V", "(N)V", "()N", "()[V", "(IIIIIII)V", "(I)VV", "(LA)V", "()V ", " ()V", "([[[[[I)V", "(" + strings.Repeat("I", 1<<20) + ")V"} {
		l = append(l, ofMeth("A", "m", s), ofField("A", "m", "("+s))
	}
	return l
}

// with is a constant with another S, T or U.
func with(c api.Const, field byte, s string) api.Const {
	switch field {
	case 'S':
		c.S = s
	case 'T':
		c.T = s
	case 'U':
		c.U = s
	}
	return c
}

func withN(c api.Const, n int64) api.Const {
	c.N = n
	return c
}

// right works out anew, by patterns, what Right answers.
func right(c api.Const) bool {
	switch c.Kind {
	case 1:
		return c.S == "" && c.T == "" && c.U == ""
	case 2:
		return c.N == 0 && len(c.S) <= 64 && c.T == "" && c.U == ""
	case 3:
		return c.N == 0 && value.MatchString(c.S) && c.T == "" && c.U == ""
	case 4:
		return c.N == 0 && name.MatchString(c.S) && name.MatchString(c.T) && value.MatchString(c.U)
	case 5:
		return c.N == 0 && name.MatchString(c.S) && name.MatchString(c.T) && sig.MatchString(c.U)
	}
	return false
}

// bytesOf works a constant's bytes out anew.
func bytesOf(c api.Const) []byte {
	b := bin.Put(nil, int64(c.Kind))
	switch c.Kind {
	case 1:
		return bin.Put(b, c.N)
	case 2, 3:
		return bin.Text(b, c.S)
	}
	for _, s := range []string{c.S, c.T, c.U} {
		b = bin.Text(b, s)
	}
	return b
}

// got works out anew what Get answers.
func got(b []byte, at int) (api.Const, int, api.Errno) {
	kind, at, e := bin.Get(b, at)
	if e != api.OK {
		return api.Const{}, 0, e
	}
	most, texts := 256, 0
	switch kind {
	case 1:
	case 2:
		most, texts = 64, 1
	case 3:
		texts = 1
	case 4, 5:
		texts = 3
	default:
		return api.Const{}, 0, api.ErrConst
	}
	c := api.Const{Kind: int(kind)}
	if kind == 1 {
		if c.N, at, e = bin.Get(b, at); e != api.OK {
			return api.Const{}, 0, e
		}
	}
	for _, field := range []byte("STU")[:texts] {
		s, to, e := bin.GetText(b, at, most)
		if e != api.OK {
			return api.Const{}, 0, e
		}
		c, at = with(c, field, s), to
	}
	if !right(c) {
		return api.Const{}, 0, api.ErrConst
	}
	return c, at, api.OK
}

func shown(c api.Const) string {
	s := strconv.Itoa(c.Kind) + " " + strconv.FormatInt(c.N, 10)
	for _, t := range []string{c.S, c.T, c.U} {
		s += " " + strconv.Quote(t[:min(len(t), 70)])
	}
	return s
}

func holdGet(t *testing.T, b []byte, at int) {
	t.Helper()
	want, wantTo, wantE := got(b, at)
	if c, to, e := pool.Get(b, at); c != want || to != wantTo || e != wantE {
		t.Errorf("Get(% x, %d) = {%s}, %d, %d, want {%s}, %d, %d", b[:min(len(b), 40)], at, shown(c), to, e, shown(want), wantTo, wantE)
	}
}

func holdGetError(t *testing.T, b string, at int, want api.Errno) {
	t.Helper()
	if c, to, e := pool.Get([]byte(b), at); c != (api.Const{}) || to != 0 || e != want {
		t.Errorf("Get(% x, %d) = {%s}, %d, %d, want error %d", b[:min(len(b), 40)], at, shown(c), to, e, want)
	}
}

// P3.1.
func TestRight(t *testing.T) {
	for _, c := range rights() {
		if !pool.Right(c) {
			t.Errorf("Right({%s}) is false", shown(c))
		}
	}
	for _, c := range wrongs() {
		if pool.Right(c) {
			t.Errorf("Right({%s}) is true", shown(c))
		}
	}
}

// P3.1: each kind with each text at each place.
func TestRightOfAllThatIsMixed(t *testing.T) {
	texts := []string{"", "A", "I", "LA;", "()V", "1", "(I)LA;", "[V", "V"}
	for kind := -1; kind <= 7; kind++ {
		for _, n := range []int64{0, 1} {
			for i := range len(texts) * len(texts) * len(texts) {
				c := api.Const{Kind: kind, N: n, S: texts[i%9], T: texts[i/9%9], U: texts[i/81]}
				if want := right(c); pool.Right(c) != want {
					t.Errorf("Right({%s}) is not %v", shown(c), want)
				}
			}
		}
	}
}

// P3.1: how long texts may be.
func TestRightOfEachLength(t *testing.T) {
	for n := range 300 {
		s := strings.Repeat("a", n)
		if want := n <= 64; pool.Right(ofStr(s)) != want {
			t.Errorf("Right of a CStr of %d bytes is not %v", n, want)
		}
		for _, c := range []api.Const{ofField(s, "x", "I"), ofField("A", s, "I"), ofField("A", "x", "L"+s+";"), ofMeth(s, "m", "()V"), ofMeth("A", s, "()V"), ofMeth("A", "m", "(L"+s+";)V"), ofType("[L" + s + ";")} {
			if want := n >= 1 && n <= 24; pool.Right(c) != want {
				t.Errorf("Right({%s}), with a name of %d bytes, is not %v", shown(c), n, want)
			}
		}
		for _, c := range []api.Const{ofType(strings.Repeat("[", n) + "I"), ofField("A", "x", strings.Repeat("[", n)+"S")} {
			if want := n <= 4; pool.Right(c) != want {
				t.Errorf("Right({%s}), with %d brackets, is not %v", shown(c), n, want)
			}
		}
		c := ofMeth("A", "m", "("+strings.Repeat("I", n)+")V")
		if want := n <= 6; pool.Right(c) != want {
			t.Errorf("Right of a CMeth that takes %d is not %v", n, want)
		}
	}
}

// P3.1, and the chapter's example.
func TestPutHasTheBytesThatTheChapterTells(t *testing.T) {
	for want, c := range map[string]api.Const{
		"\x02\x0a": ofInt(5),
		"\x02\x00": ofInt(0),
		"\x02\x05": ofInt(-3),
		"\x02\xff\xff\xff\xff\xff\xff\xff\xff\xff\x01": ofInt(math.MinInt64),
		"\x04\x00":                    ofStr(""),
		"\x04\x04hi":                  ofStr("hi"),
		"\x06\x08[LA;":                ofType("[LA;"),
		"\x08\x02A\x02x\x02I":         ofField("A", "x", "I"),
		"\x0a\x02A\x02m\x08(I)V":      ofMeth("A", "m", "(I)V"),
		"\x0a\x08Main\x08main\x06()V": ofMeth("Main", "main", "()V"),
		"\x04\x80\x01" + longName + longName + "0123456789abcdef": ofStr(longName + longName + "0123456789abcdef"),
	} {
		if b, e := pool.Put(nil, c); string(b) != want || e != api.OK {
			t.Errorf("Put(none, {%s}) = % x, %d, want % x", shown(c), b, e, want)
		}
	}
	for _, c := range rights() {
		if b, e := pool.Put([]byte("ab"), c); string(b) != "ab"+string(bytesOf(c)) || e != api.OK {
			t.Errorf("Put(ab, {%s}) = % x, %d", shown(c), b, e)
		}
	}
}

// P3.1.
func TestPutOfWhatCanNotBe(t *testing.T) {
	for _, c := range wrongs() {
		for _, b := range [][]byte{nil, []byte("ab")} {
			if out, e := pool.Put(b, c); len(out) != 0 || e != api.ErrConst {
				t.Errorf("Put(%q, {%s}) = % x, %d", b, shown(c), out, e)
			}
		}
	}
}

// many are so many constants that can be, no two alike.
func many(n int) []api.Const {
	var l []api.Const
	for i := range n {
		switch s := strconv.Itoa(i); i % 5 {
		case 0:
			l = append(l, ofInt(int64(i-100)))
		case 1:
			l = append(l, ofStr(s))
		case 2:
			l = append(l, ofType("LA"+s+";"))
		case 3:
			l = append(l, ofField("A", "x"+s, "I"))
		case 4:
			l = append(l, ofMeth("A", "m"+s, "()V"))
		}
	}
	return l
}

// bytesOfAll works out anew the bytes of many.
func bytesOfAll(l []api.Const) []byte {
	b := bin.Put(nil, int64(len(l)))
	for _, c := range l {
		b = append(b, bytesOf(c)...)
	}
	return b
}

func holdPutAll(t *testing.T, want api.Errno, l ...api.Const) {
	t.Helper()
	kept := slices.Clone(l)
	b, e := pool.PutAll([]byte("ab"), l...)
	if e != want || e != api.OK && len(b) != 0 || e == api.OK && string(b) != "ab"+string(bytesOfAll(l)) {
		t.Errorf("PutAll of %d = % x, %d, want error %d", len(l), b[:min(len(b), 40)], e, want)
	}
	if !slices.Equal(l, kept) {
		t.Fatal("PutAll changed what was handed in")
	}
}

// P3.1.
func TestPutAllOfWhatCanBe(t *testing.T) {
	if b, e := pool.PutAll(nil); string(b) != "\x00" || e != api.OK {
		t.Errorf("PutAll of none = % x, %d", b, e)
	}
	if b, e := pool.PutAll([]byte("x"), ofInt(5), ofStr("hi")); string(b) != "x\x04\x02\x0a\x04\x04hi" || e != api.OK {
		t.Errorf("PutAll of two = % x, %d", b, e)
	}
	holdPutAll(t, api.OK, rights()...)
	for _, n := range []int{0, 1, 2, 63, 64, 65, 127, 128, 255, 256} {
		holdPutAll(t, api.OK, many(n)...)
	}
	for _, c := range rights() {
		holdPutAll(t, api.OK, c)
	}
}

// P3.1: each error, at each place, and which one is named first.
func TestPutAllOfWhatCanNotBe(t *testing.T) {
	for _, n := range []int{257, 258, 600} {
		holdPutAll(t, api.ErrSize, many(n)...)
		holdPutAll(t, api.ErrSize, slices.Repeat([]api.Const{ofInt(1)}, n)...)
		holdPutAll(t, api.ErrSize, make([]api.Const, n)...)
	}
	for _, c := range wrongs() {
		holdPutAll(t, api.ErrConst, c)
		holdPutAll(t, api.ErrConst, c, c)
		holdPutAll(t, api.ErrConst, ofInt(1), c, ofInt(1))
		holdPutAll(t, api.ErrConst, ofInt(1), ofInt(1), c)
	}
	for _, at := range []int{0, 1, 128, 255} {
		l := many(256)
		l[at] = api.Const{}
		holdPutAll(t, api.ErrConst, l...)
	}
	for _, c := range rights() {
		holdPutAll(t, api.ErrTwice, c, c)
		holdPutAll(t, api.ErrTwice, c, ofStr("other"), c)
		holdPutAll(t, api.ErrTwice, ofStr("other"), c, c)
	}
	for _, at := range [][2]int{{0, 255}, {0, 1}, {254, 255}, {100, 200}} {
		l := many(256)
		l[at[1]] = l[at[0]]
		holdPutAll(t, api.ErrTwice, l...)
	}
}

// P3.1: new memory.
func TestBytesShareNoMemory(t *testing.T) {
	room := append(make([]byte, 0, 64), "ab........"...)
	b := room[:2]
	for name, put := range map[string]func() []byte{
		"Put":    func() []byte { out, _ := pool.Put(b, ofStr("hi")); return out },
		"PutAll": func() []byte { out, _ := pool.PutAll(b, ofInt(5), ofStr("hi")); return out },
		"none":   func() []byte { out, _ := pool.PutAll(b); return out },
	} {
		first := put()
		kept := string(first)
		second := put()
		for i := range first {
			first[i] = '!'
		}
		_ = append(first, "!!!!"...)
		if string(second) != kept || string(put()) != kept {
			t.Error(name, "shares memory with another answer")
		}
		if string(room) != "ab........" {
			t.Fatal(name, "wrote into what was handed in, or behind it")
		}
	}
	first, _ := pool.Put(b, ofInt(5))
	all, _ := pool.PutAll(b, ofInt(5))
	b[0] = 'x'
	if string(first) != "ab\x02\x0a" || string(all) != "ab\x02\x02\x0a" {
		t.Error("Put or PutAll kept what was handed in")
	}
}

// P3.2: places that there are not, and bytes that end too early.
func TestGetOfPlacesThatThereAreNot(t *testing.T) {
	for _, b := range []string{"", "\x02\x0a", "\x04\x04hi"} {
		for _, at := range []int{-1, math.MinInt, len(b) + 1, math.MaxInt} {
			holdGetError(t, b, at, api.ErrRange)
			if l, to, e := pool.GetAll([]byte(b), at); len(l) != 0 || to != 0 || e != api.ErrRange {
				t.Errorf("GetAll(% x, %d) = %v, %d, %d", b, at, l, to, e)
			}
		}
		holdGetError(t, b, len(b), api.ErrShort)
	}
	for _, c := range rights() {
		b := string(bytesOf(c))
		for n := range len(b) {
			holdGetError(t, b[:n], 0, api.ErrShort)
			holdGetError(t, "ab"+b[:n], 2, api.ErrShort)
		}
	}
}

// P3.2: the Kind's errors come ahead of those of what follows.
func TestGetOfKindsThatThereAreNot(t *testing.T) {
	for _, n := range []int64{0, 6, 7, -1, -2, -5, 63, 255, 256, 257, 1 << 31, 1 << 32, 1<<32 + 1, 1<<32 + 2, math.MaxInt64, math.MinInt64, math.MinInt64 + 1} {
		kind := string(bin.Put(nil, n))
		for _, rest := range []string{"", "\x80", "\x80\x00", "\x0a", "\x02A\x02x\x02I", "\x01", "\xff\xff\x7f", strings.Repeat("\xff", 12)} {
			holdGetError(t, kind+rest, 0, api.ErrConst)
		}
	}
	holdGetError(t, "\x80\x00", 0, api.ErrForm)
	holdGetError(t, "\x82\x00\x0a", 0, api.ErrForm)
	holdGetError(t, strings.Repeat("\xff", 12), 0, api.ErrForm)
	holdGetError(t, "\x80", 0, api.ErrShort)
}

// P3.2: the errors of what follows a Kind.
func TestGetOfWhatFollows(t *testing.T) {
	holdGetError(t, "\x02", 0, api.ErrShort)
	holdGetError(t, "\x02\x80", 0, api.ErrShort)
	holdGetError(t, "\x02\x80\x00", 0, api.ErrForm)
	holdGetError(t, "\x02"+strings.Repeat("\xff", 11), 0, api.ErrForm)
	// The first text, and those behind it, of which all ahead are right.
	for _, ahead := range []string{"\x04", "\x06", "\x08", "\x08\x02A", "\x08\x02A\x02x", "\x0a", "\x0a\x02A", "\x0a\x02A\x02m"} {
		holdGetError(t, ahead, 0, api.ErrShort)
		holdGetError(t, ahead+"\x80", 0, api.ErrShort)
		holdGetError(t, ahead+"\x02", 0, api.ErrShort)
		holdGetError(t, ahead+"\x80\x00", 0, api.ErrForm)
		holdGetError(t, ahead+"\x01", 0, api.ErrSize)
		holdGetError(t, ahead+string(bin.Put(nil, math.MinInt64)), 0, api.ErrSize)
		holdGetError(t, ahead+string(bin.Put(nil, math.MaxInt64)), 0, api.ErrSize)
		holdGetError(t, ahead+string(bin.Put(nil, 257)), 0, api.ErrSize)
		holdGetError(t, ahead+string(bin.Text(nil, strings.Repeat("a", 257))), 0, api.ErrSize)
	}
	holdGetError(t, "\x04"+string(bin.Put(nil, 64)), 0, api.ErrShort)
	holdGetError(t, "\x04"+string(bin.Put(nil, 65)), 0, api.ErrSize)
	holdGetError(t, "\x04"+string(bin.Text(nil, strings.Repeat("a", 65))), 0, api.ErrSize)
	for _, ahead := range []string{"\x06", "\x08", "\x08\x02A", "\x08\x02A\x02x", "\x0a", "\x0a\x02A", "\x0a\x02A\x02m"} {
		for _, n := range []int64{65, 200, 255, 256} {
			holdGetError(t, ahead+string(bin.Put(nil, n)), 0, api.ErrShort)
		}
	}
}

// P3.2: texts that can be read, but make no constant; an error of a later text comes ahead of that.
func TestGetOfWhatCanNotBe(t *testing.T) {
	long := strings.Repeat("a", 256)
	for _, c := range []api.Const{ofType(""), ofType("V"), ofType("N"), ofType("[[[[[I"), ofType(long),
		ofField("", "x", "I"), ofField("1", "x", "I"), ofField(long, "x", "I"), ofField("A", "", "I"), ofField("A", "x y", "I"), ofField("A", long, "I"), ofField("A", "x", ""), ofField("A", "x", "V"), ofField("A", "x", "()V"), ofField("A", "x", long),
		ofMeth("", "m", "()V"), ofMeth("1", "m", "()V"), ofMeth(long, "m", "()V"), ofMeth("A", "", "()V"), ofMeth("A", "m-", "()V"), ofMeth("A", long, "()V"), ofMeth("A", "m", ""), ofMeth("A", "m", "I"), ofMeth("A", "m", "(IIIIIII)V"), ofMeth("A", "m", long)} {
		b := string(bytesOf(c))
		holdGetError(t, b, 0, api.ErrConst)
		for n := range len(b) {
			holdGetError(t, b[:n], 0, api.ErrShort)
		}
	}
	holdGetError(t, "\x08\x021\x02x\x01", 0, api.ErrSize)
	holdGetError(t, "\x08\x021\x01\x02I", 0, api.ErrSize)
	holdGetError(t, "\x08\x021\x80\x00\x01", 0, api.ErrForm)
	holdGetError(t, "\x0a\x00\x00\x80\x00", 0, api.ErrForm)
}

// P3.2: of all bytes up to three, and of right ones of which one is another.
func TestGetOfAllShortBytes(t *testing.T) {
	for c := range 256 {
		holdGet(t, []byte{byte(c)}, 0)
		for d := range 256 {
			for _, last := range []byte{0, 'A', 'I', 0x80} {
				holdGet(t, []byte{byte(c), byte(d), last}, 0)
			}
		}
	}
	for _, c := range []api.Const{ofInt(300), ofStr("hi"), ofType("[LA;"), ofField("A", "x", "I"), ofMeth("A", "m", "(I)V")} {
		b := bytesOf(c)
		for i := range b {
			for d := range 256 {
				other := bytes.Clone(b)
				other[i] = byte(d)
				holdGet(t, other, 0)
			}
		}
	}
}

func holdGetAll(t *testing.T, b []byte, at int, want []api.Const, wantTo int, wantE api.Errno) {
	t.Helper()
	if l, to, e := pool.GetAll(b, at); !slices.Equal(l, want) || to != wantTo || e != wantE {
		t.Errorf("GetAll(% x, %d) = %d constants, %d, %d, want %d, %d, %d", b[:min(len(b), 40)], at, len(l), to, e, len(want), wantTo, wantE)
	}
}

// P3.2.
func TestGetAllOfWhatCanBe(t *testing.T) {
	holdGetAll(t, []byte{0}, 0, nil, 1, api.OK)
	holdGetAll(t, []byte{9, 0, 9}, 1, nil, 2, api.OK)
	for _, n := range []int{1, 2, 63, 64, 255, 256} {
		b := bytesOfAll(many(n))
		holdGetAll(t, b, 0, many(n), len(b), api.OK)
		holdGetAll(t, slices.Concat([]byte("ab"), b, []byte("cd")), 2, many(n), len(b)+2, api.OK)
	}
}

// P3.2.
func TestGetAllOfCountsThatCanNotBe(t *testing.T) {
	for _, n := range []int64{-1, -2, math.MinInt64, 257, 258, 1 << 32, 1<<32 + 1, math.MaxInt64} {
		for _, rest := range []string{"", "\x02\x0a", "\x00", "\x80\x00"} {
			holdGetAll(t, append(bin.Put(nil, n), rest...), 0, nil, 0, api.ErrSize)
		}
	}
	holdGetAll(t, bytesOfAll(many(257)), 0, nil, 0, api.ErrSize)
	holdGetAll(t, []byte{0x80, 0}, 0, nil, 0, api.ErrForm)
	holdGetAll(t, []byte{0x80}, 0, nil, 0, api.ErrShort)
	holdGetAll(t, nil, 0, nil, 0, api.ErrShort)
}

// P3.2: the errors of each constant, wherever it stands, and of two that are alike.
func TestGetAllOfConstantsThatCanNotBe(t *testing.T) {
	b := bytesOfAll(many(10))
	for n := range len(b) {
		holdGetAll(t, b[:n], 0, nil, 0, api.ErrShort)
	}
	for bad, want := range map[string]api.Errno{
		"":                   api.ErrShort,
		"\x00":               api.ErrConst,
		"\x0c":               api.ErrConst,
		"\x06\x02V":          api.ErrConst,
		"\x80\x00":           api.ErrForm,
		"\x04\x01":           api.ErrSize,
		"\x04\x82\x01":       api.ErrSize,
		"\x08\x02A\x02x":     api.ErrShort,
		"\x0a\x02A\x02m\x01": api.ErrSize,
	} {
		for n := range 5 {
			b := bin.Put(nil, int64(n+1))
			for _, c := range many(n) {
				b = append(b, bytesOf(c)...)
			}
			holdGetAll(t, append(b, bad...), 0, nil, 0, want)
		}
	}
	for _, c := range rights() {
		holdGetAll(t, bytesOfAll([]api.Const{c, c}), 0, nil, 0, api.ErrTwice)
		holdGetAll(t, bytesOfAll([]api.Const{ofStr("other"), c, ofInt(77), c}), 0, nil, 0, api.ErrTwice)
	}
	for _, at := range [][2]int{{0, 255}, {0, 1}, {254, 255}} {
		l := many(256)
		l[at[1]] = l[at[0]]
		holdGetAll(t, bytesOfAll(l), 0, nil, 0, api.ErrTwice)
	}
}

// P3.2: lists that were got are memory of their own; the bytes stay as they were, and are not kept.
func TestGetAllSharesNoMemory(t *testing.T) {
	b := bytesOfAll(many(20))
	kept := bytes.Clone(b)
	first, _, _ := pool.GetAll(b, 0)
	second, _, _ := pool.GetAll(b, 0)
	for i := range first {
		first[i] = api.Const{}
	}
	if third, _, _ := pool.GetAll(b, 0); !slices.Equal(second, many(20)) || !slices.Equal(third, many(20)) {
		t.Error("GetAll shares memory with another answer")
	}
	if !bytes.Equal(b, kept) {
		t.Error("GetAll changed what was handed in")
	}
	clear(b)
	if !slices.Equal(second, many(20)) {
		t.Error("GetAll kept what was handed in")
	}
}

// P3.3.
func TestFind(t *testing.T) {
	l := many(40)
	for i, c := range l {
		if at := pool.Find(l, c); at != i {
			t.Errorf("Find(.., {%s}) = %d, want %d", shown(c), at, i)
		}
		if at := pool.Find(l[:i], c); at != -1 {
			t.Errorf("Find(.., {%s}) = %d, ahead of its place", shown(c), at)
		}
		if at := pool.Find(append(slices.Clone(l), l...), c); at != i {
			t.Errorf("Find(.., {%s}) = %d, of two places", shown(c), at)
		}
	}
	if at := pool.Find(nil, ofInt(0)); at != -1 {
		t.Errorf("Find of none = %d", at)
	}
	if at := pool.Find(many(600), many(600)[599]); at != 599 {
		t.Errorf("Find of a long list = %d", at)
	}
	// What can not be is found, too, if it stands there.
	if at := pool.Find([]api.Const{ofInt(0), {}}, api.Const{}); at != 1 {
		t.Errorf("Find of a zero constant = %d", at)
	}
}

// P3.3: constants are alike only if all of them is.
func TestFindOfWhatIsAlmostAlike(t *testing.T) {
	c := ofMeth("A", "m", "()V")
	for _, other := range []api.Const{ofField("A", "m", "()V"), withN(c, 1), with(c, 'S', "B"), with(c, 'T', "n"), with(c, 'U', "()I"), ofMeth("m", "A", "()V")} {
		if at := pool.Find([]api.Const{other}, c); at != -1 {
			t.Errorf("Find finds {%s} for {%s}", shown(other), shown(c))
		}
		if at := pool.Find([]api.Const{other, c}, c); at != 1 {
			t.Errorf("Find does not find {%s} behind {%s}", shown(c), shown(other))
		}
	}
	if at := pool.Find([]api.Const{ofStr("I"), ofType("I")}, ofType("I")); at != 1 {
		t.Errorf("Find of a type = %d", at)
	}
}

func holdAdd(t *testing.T, l []api.Const, c api.Const, want []api.Const, wantAt int, wantE api.Errno) {
	t.Helper()
	kept := slices.Clone(l)
	if out, at, e := pool.Add(l, c); !slices.Equal(out, want) || at != wantAt || e != wantE {
		t.Errorf("Add(%d, {%s}) = %d, %d, %d, want %d, %d, %d", len(l), shown(c), len(out), at, e, len(want), wantAt, wantE)
	}
	if !slices.Equal(l, kept) {
		t.Fatal("Add changed what was handed in")
	}
}

// P3.3.
func TestAdd(t *testing.T) {
	for _, c := range rights() {
		holdAdd(t, nil, c, []api.Const{c}, 0, api.OK)
		holdAdd(t, []api.Const{c}, c, []api.Const{c}, 0, api.OK)
	}
	other := ofStr("other")
	for _, n := range []int{0, 1, 2, 100, 255} {
		l := many(n)
		holdAdd(t, l, other, append(slices.Clone(l), other), n, api.OK)
		for i, c := range l {
			holdAdd(t, l, c, l, i, api.OK)
		}
	}
	// Of two places the first one.
	l := append(many(5), many(5)...)
	holdAdd(t, l, l[3], l, 3, api.OK)
	// What stands there already need not be right.
	l = []api.Const{{}, ofInt(1), {}}
	holdAdd(t, l, ofInt(1), l, 1, api.OK)
	holdAdd(t, l, ofInt(2), append(slices.Clone(l), ofInt(2)), 3, api.OK)
}

// P3.3: at the limit, and beyond it; ErrConst comes ahead of all, ErrFull behind Find's place.
func TestAddOfWhatCanNotBe(t *testing.T) {
	other := ofStr("other")
	for _, n := range []int{256, 257, 600} {
		l := many(n)
		holdAdd(t, l, other, nil, 0, api.ErrFull)
		holdAdd(t, l, api.Const{}, nil, 0, api.ErrConst)
		for _, i := range []int{0, 1, 255, n - 1} {
			holdAdd(t, l, l[i], l, i, api.OK)
		}
	}
	for _, c := range wrongs() {
		holdAdd(t, nil, c, nil, 0, api.ErrConst)
		holdAdd(t, []api.Const{other, c}, c, nil, 0, api.ErrConst)
	}
}

// P3.3: new memory, whether the constant stood there or not.
func TestAddSharesNoMemory(t *testing.T) {
	room := many(10)
	l := room[:5]
	for _, c := range []api.Const{ofStr("other"), l[2]} {
		first, _, _ := pool.Add(l, c)
		kept := slices.Clone(first)
		second, _, _ := pool.Add(l, c)
		for i := range first {
			first[i] = api.Const{}
		}
		_ = append(first, api.Const{}, api.Const{})
		if !slices.Equal(second, kept) {
			t.Error("Add shares memory with another answer")
		}
		if !slices.Equal(room, many(10)) {
			t.Fatal("Add wrote into what was handed in, or behind it, or answered it")
		}
	}
	out, _, _ := pool.Add(l, l[0])
	l[1] = api.Const{}
	if out[1] != many(2)[1] {
		t.Error("Add kept what was handed in")
	}
}

// P3.4, and the chapter's example.
func TestNames(t *testing.T) {
	for _, x := range []struct {
		c    api.Const
		want string
	}{
		{ofInt(5), ""}, {ofStr("A"), ""}, {ofStr("LA;"), ""},
		{ofType("I"), ""}, {ofType("[[S"), ""}, {ofType("LA;"), "A"}, {ofType("[LA;"), "A"}, {ofType("[[[[LA;"), "A"}, {ofType("LObject;"), "Object"}, {ofType("LI;"), "I"}, {ofType("[LV;"), "V"}, {ofType(longType), longName},
		{ofField("A", "x", "I"), "A"}, {ofField("A", "x", "[B"), "A"}, {ofField("A", "x", "LB;"), "A B"}, {ofField("B", "x", "LA;"), "B A"}, {ofField("A", "B", "[[LC;"), "A C"}, {ofField("A", "x", "LA;"), "A"}, {ofField("A", "x", "[LA;"), "A"},
		{ofMeth("A", "m", "()V"), "A"}, {ofMeth("A", "B", "(I[SB)[I"), "A"},
		{ofMeth("A", "m", "(LB;)[[LC;"), "A B C"}, {ofMeth("A", "m", "(LC;)LB;"), "A C B"}, {ofMeth("C", "m", "([LB;I[[LA;)V"), "C B A"}, {ofMeth("A", "m", "()[LB;"), "A B"},
		{ofMeth("A", "m", "(LB;LB;LA;)LB;"), "A B"}, {ofMeth("A", "m", "(LB;LC;[LB;)LC;"), "A B C"}, {ofMeth("A", "m", "(LA;LB;)LA;"), "A B"}, {ofMeth("A", "m", "(LB;LC;)LB;"), "A B C"},
		{ofMeth("A", "m", "(LB;LC;LD;LE;LF;LG;)LH;"), "A B C D E F G H"}, {ofMeth("H", "m", "(LG;LF;LE;LD;LC;LB;)LA;"), "H G F E D C B A"},
	} {
		if l := pool.Names(x.c); !slices.Equal(l, strings.Fields(x.want)) {
			t.Errorf("Names({%s}) = %q, want %q", shown(x.c), l, x.want)
		}
	}
	for _, c := range wrongs() {
		if l := pool.Names(c); len(l) != 0 {
			t.Errorf("Names({%s}) = %d names", shown(c), len(l))
		}
	}
}

// P3.4: memory of its own.
func TestNamesShareNoMemory(t *testing.T) {
	for _, c := range []api.Const{ofType("LA;"), ofField("A", "x", "LB;"), ofMeth("A", "m", "(LB;)[[LC;")} {
		first, second := pool.Names(c), pool.Names(c)
		kept := slices.Clone(second)
		for i := range first {
			first[i] = "!"
		}
		if !slices.Equal(second, kept) || !slices.Equal(pool.Names(c), kept) {
			t.Errorf("Names({%s}) shares memory with another answer", shown(c))
		}
	}
}

// P3.5: what was put is got as it was, wherever it stands.
func TestConstantsAreGotAsTheyWerePut(t *testing.T) {
	var all []byte
	for _, c := range rights() {
		b, e := pool.Put([]byte("\xff\x80"), c)
		if e != api.OK {
			t.Fatalf("Put(.., {%s}): error %d", shown(c), e)
		}
		to := len(b)
		if back, at, e := pool.Get(append(b, 0xff, 0), 2); back != c || at != to || e != api.OK {
			t.Errorf("Get of Put(.., {%s}) = {%s}, %d, %d", shown(c), shown(back), at, e)
		}
		all, _ = pool.Put(all, c)
	}
	at := 0
	for _, c := range rights() {
		back, to, e := pool.Get(all, at)
		if back != c || e != api.OK {
			t.Fatalf("Get(.., %d) = {%s}, %d, want {%s}", at, shown(back), e, shown(c))
		}
		at = to
	}
	if at != len(all) {
		t.Errorf("the last one ends at %d of %d", at, len(all))
	}
}

// P3.5.
func TestListsAreGotAsTheyWerePut(t *testing.T) {
	for _, l := range [][]api.Const{nil, rights(), many(1), many(127), many(256)} {
		b, e := pool.PutAll([]byte("ab"), l...)
		if e != api.OK {
			t.Fatalf("PutAll of %d: error %d", len(l), e)
		}
		holdGetAll(t, b, 2, l, len(b), api.OK)
		holdGetAll(t, append(b, 0x80, 0), 2, l, len(b), api.OK)
		back, _, _ := pool.GetAll(b, 2)
		if again, e := pool.PutAll([]byte("ab"), back...); !bytes.Equal(again, b) || e != api.OK {
			t.Errorf("PutAll of GetAll of %d: others, error %d", len(l), e)
		}
	}
}

// P3.2, P3.5: no bytes and places make it panic, and what is got is put as it was.
func FuzzGet(f *testing.F) {
	f.Add([]byte("\x0a\x02A\x02m\x08(I)V"), 0)
	f.Add([]byte("\x04\x02\x0a\x04\x04hi"), 1)
	f.Fuzz(func(t *testing.T, b []byte, at int) {
		holdGet(t, b, at)
		if c, to, e := pool.Get(b, at); e == api.OK {
			if out, e := pool.Put(nil, c); !bytes.Equal(out, b[at:to]) || e != api.OK {
				t.Errorf("Put of Get(% x, %d) = % x, %d", b, at, out, e)
			}
		}
		if l, to, e := pool.GetAll(b, at); e == api.OK {
			if out, e := pool.PutAll(nil, l...); !bytes.Equal(out, b[at:to]) || e != api.OK {
				t.Errorf("PutAll of GetAll(% x, %d) = % x, %d", b, at, out, e)
			}
		}
	})
}
