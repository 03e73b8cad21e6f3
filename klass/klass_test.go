package klass_test

import (
	"bytes"
	"math"
	"slices"
	"strconv"
	"strings"
	"testing"

	"hornbook/api"
	"hornbook/klass"
)

var (
	longName = strings.Repeat("n", 24)
	longType = "[[[[L" + longName + ";"
	longSig  = "(" + strings.Repeat(longType, 6) + ")" + longType
)

// retV is the least code that can be.
func retV() []api.Ins {
	return []api.Ins{{Op: api.RetV}}
}

// ints are so many constants, of which no two are alike.
func ints(n int) []api.Const {
	var l []api.Const
	for i := range n {
		l = append(l, api.Const{Kind: api.CInt, N: int64(i) * 1000})
	}
	return l
}

// fields are so many.
func fields(n int) []api.Field {
	var l []api.Field
	for i := range n {
		l = append(l, api.Field{Name: "x" + strconv.Itoa(i), Desc: "I"})
	}
	return l
}

// methods are so many.
func methods(n int) []api.Method {
	var l []api.Method
	for i := range n {
		l = append(l, api.Method{Name: "m" + strconv.Itoa(i), Sig: "()V", Locals: 1, Code: retV()})
	}
	return l
}

// hands are so many.
func hands(n int) []api.Hand {
	return slices.Repeat([]api.Hand{{From: 0, To: 1, At: 0, Class: "Exc"}}, n)
}

// rich has of each part more than one.
func rich() api.Class {
	return api.Class{
		Name:  "A",
		Super: "Base",
		Consts: []api.Const{
			{Kind: api.CInt, N: -300}, {Kind: api.CStr, S: "hi"}, {Kind: api.CField, S: "A", T: "x", U: "I"},
			{Kind: api.CMeth, S: "B", T: "m", U: "(I[LA;)V"}, {Kind: api.CType, S: "[LA;"}, {Kind: api.CInt, N: 7},
		},
		Fields: []api.Field{{Name: "x", Desc: "I"}, {Name: "next", Desc: "[[LA;"}, {Name: "s", Desc: "S"}},
		Methods: []api.Method{
			{Name: "m", Sig: "(I[LA;)V", Locals: 4,
				Code: []api.Ins{{Op: api.Str, A: 1}, {Op: api.Print}, {Op: api.Load, A: 3}, {Op: api.Int, A: 5}, {Op: api.JumpF, A: 2}, {Op: api.Int, A: 5}, {Op: api.GetF, A: 2}, {Op: api.RetV}},
				Hand: []api.Hand{{From: 0, To: 8, At: 7, Class: "Exc"}, {From: 2, To: 3, At: 0, Class: "DivExc"}}},
			{Name: "n", Sig: "()I", Locals: 1,
				Code: []api.Ins{{Op: api.Int, A: 0}, {Op: api.Int, A: 5}, {Op: api.Call, A: 3}, {Op: api.Ret}},
				Hand: []api.Hand{{From: 1, To: 4, At: 3, Class: "B"}}},
			{Name: "x", Sig: "()V", Locals: 24, Code: retV()},
		},
	}
}

// bare has a class's names alone.
func bare() api.Class {
	return api.Class{Name: "A", Super: "Object"}
}

// limits are classes that have as much of something as there may be.
func limits() []api.Class {
	var l []api.Class
	add := func(change func(c *api.Class)) {
		c := bare()
		change(&c)
		l = append(l, c)
	}
	add(func(c *api.Class) { c.Name, c.Super = longName, longName })
	add(func(c *api.Class) { c.Name, c.Super = "_", "_9" })
	add(func(c *api.Class) { c.Super = "A" })
	add(func(c *api.Class) { c.Consts = ints(256) })
	add(func(c *api.Class) { c.Fields = fields(16) })
	add(func(c *api.Class) { c.Fields = []api.Field{{Name: longName, Desc: longType}} })
	add(func(c *api.Class) { c.Methods = methods(32) })
	add(func(c *api.Class) {
		c.Methods = []api.Method{{Name: longName, Sig: longSig, Locals: 7, Code: retV(), Hand: hands(8)}}
	})
	add(func(c *api.Class) {
		c.Methods = []api.Method{{Name: "m", Sig: "(I)V", Locals: 24, Code: append(make([]api.Ins, 511), api.Ins{Op: api.Load, A: 23}),
			Hand: []api.Hand{{From: 0, To: 512, At: 511, Class: longName}, {From: 511, To: 512, At: 0, Class: "_"}}}}
	})
	add(func(c *api.Class) {
		c.Consts = ints(256)
		c.Fields = fields(16)
		c.Methods = methods(32)
		for i := range c.Methods {
			c.Methods[i].Code = append(make([]api.Ins, 511), api.Ins{Op: api.Int, A: i + 224})
			c.Methods[i].Hand = hands(8)
		}
	})
	return l
}

// rights can be.
func rights() []api.Class {
	return append(limits(), bare(), rich())
}

// fault is what makes rich a class that can not be; of a slot two can not be at once.
type fault struct {
	slot string
	want api.Errno
	make func(c *api.Class)
}

// faults are in the order of the chapter.
func faults() []fault {
	l := []fault{
		{"name", api.ErrName, func(c *api.Class) { c.Name = "" }},
		{"super", api.ErrName, func(c *api.Class) { c.Super = "9" }},
		{"consts", api.ErrSize, func(c *api.Class) { c.Consts = append(c.Consts, ints(251)...) }},
		{"const 5", api.ErrConst, func(c *api.Class) { c.Consts[4] = api.Const{Kind: 6} }},
		{"const 1", api.ErrTwice, func(c *api.Class) { c.Consts[1] = c.Consts[0] }},
		{"fields", api.ErrSize, func(c *api.Class) { c.Fields = append(c.Fields, fields(14)...) }},
		{"field 0", api.ErrName, func(c *api.Class) { c.Fields[0].Name = "a b" }},
		{"field 0's type", api.ErrDesc, func(c *api.Class) { c.Fields[0].Desc = "V" }},
		{"field 1", api.ErrName, func(c *api.Class) { c.Fields[1].Name = longName + "n" }},
		{"field 1's type", api.ErrDesc, func(c *api.Class) { c.Fields[1].Desc = "N" }},
		{"field 1", api.ErrTwice, func(c *api.Class) { c.Fields[1].Name = "x" }},
		{"field 2", api.ErrName, func(c *api.Class) { c.Fields[2].Name = "" }},
		{"methods", api.ErrSize, func(c *api.Class) { c.Methods = append(c.Methods, methods(30)...) }},
	}
	for i, n := range []string{"first", "second"} {
		l = append(l, faultsOfMethod(n, i)...)
	}
	return l
}

// faultsOfMethod are those of one of the first two methods.
func faultsOfMethod(slot string, i int) []fault {
	l := []fault{
		{slot + "'s name", api.ErrName, func(c *api.Class) { c.Methods[i].Name = "1" }},
		{slot + "'s sig", api.ErrForm, func(c *api.Class) { c.Methods[i].Sig = "I" }},
		{slot + "'s locals", api.ErrArg, func(c *api.Class) { c.Methods[i].Locals = 25 }},
		{slot + "'s code", api.ErrSize, func(c *api.Class) { c.Methods[i].Code = nil }},
		{slot + "'s code", api.ErrSize, func(c *api.Class) { c.Methods[i].Code = make([]api.Ins, 513) }},
		{slot + "'s first", api.ErrCode, func(c *api.Class) { c.Methods[i].Code = slices.Replace(c.Methods[i].Code, 0, 1, api.Ins{Op: 46}) }},
		{slot + "'s code", api.ErrCode, func(c *api.Class) {
			c.Methods[i].Code = append(slices.Clone(c.Methods[i].Code), api.Ins{Op: api.Old, A: 2})
		}},
		{slot + "'s handlers", api.ErrSize, func(c *api.Class) { c.Methods[i].Hand = append(c.Methods[i].Hand, hands(9)...) }},
		{slot + "'s range", api.ErrRange, func(c *api.Class) { c.Methods[i].Hand[0].From = -1 }},
		{slot + "'s class", api.ErrName, func(c *api.Class) { c.Methods[i].Hand[0].Class = "" }},
	}
	if i > 0 {
		twice := fault{slot + "'s name", api.ErrTwice, func(c *api.Class) { c.Methods[i].Name = "m" }}
		l = slices.Insert(l, 2, twice)
	}
	return l
}

// P5.1: each error, and of two the one that is named first.
func TestRightTellsTheFirstError(t *testing.T) {
	l := faults()
	for i, f := range l {
		c := rich()
		f.make(&c)
		if e := klass.Right(c); e != f.want {
			t.Errorf("%s: error %d, want %d", f.slot, e, f.want)
		}
		for _, g := range l[i+1:] {
			// What the code of another one would put in the place of f is no second fault.
			if g.slot == f.slot || strings.HasSuffix(f.slot, "code") && strings.HasSuffix(g.slot, "first") {
				continue
			}
			c := rich()
			f.make(&c)
			g.make(&c)
			if e := klass.Right(c); e != f.want {
				t.Errorf("%s and %s: error %d, want %d", f.slot, g.slot, e, f.want)
			}
		}
	}
}

// P5.1: all that can be, with all that there may be.
func TestRightOfClassesThatCanBe(t *testing.T) {
	for i, c := range rights() {
		if e := klass.Right(c); e != api.OK {
			t.Errorf("class %d: error %d", i, e)
		}
	}
}

// P5.1: each number and each text of a class is each of many that can be and can not.
func TestRightOfEachPartInItsPlace(t *testing.T) {
	numbers := []int{math.MinInt, math.MinInt + 1, -2, -1, 0, 1, 2, 3, 4, 5, 6, 7, 8, 9, 23, 24, 25, 255, 256, 257, 65535, 65536, 1 << 32, 1<<32 + 1, math.MaxInt - 1, math.MaxInt}
	texts := []string{"", "A", "x", "m", "n", "s", "I", "V", "N", "LA;", "()V", "()I", "(I[LA;)V", "(V)V", "(IIIIII)V", "(IIIIIII)V", "9", "a b", "\xff", longName, longName + "n", longType, longSig}
	for part := 0; ; part++ {
		c := rich()
		ints, strs := partsOf(&c)
		if part >= len(ints) && part >= len(strs) {
			return
		}
		hold := func() {
			if e, want := klass.Right(c), right(c); e != want {
				t.Errorf("%#v: error %d, want %d", c, e, want)
			}
		}
		if part < len(ints) {
			kept := *ints[part]
			for _, *ints[part] = range numbers {
				hold()
			}
			*ints[part] = kept
		}
		if part < len(strs) {
			for _, *strs[part] = range texts {
				hold()
			}
		}
	}
}

// partsOf answers where the numbers and the texts of a class stand.
func partsOf(c *api.Class) (ints []*int, strs []*string) {
	strs = append(strs, &c.Name, &c.Super)
	for i := range c.Consts {
		k := &c.Consts[i]
		ints, strs = append(ints, &k.Kind), append(strs, &k.S, &k.T, &k.U)
	}
	for i := range c.Fields {
		strs = append(strs, &c.Fields[i].Name, &c.Fields[i].Desc)
	}
	for i := range c.Methods {
		m := &c.Methods[i]
		ints, strs = append(ints, &m.Locals), append(strs, &m.Name, &m.Sig)
		for k := range m.Code {
			ints = append(ints, &m.Code[k].Op, &m.Code[k].A)
		}
		for k := range m.Hand {
			h := &m.Hand[k]
			ints, strs = append(ints, &h.From, &h.To, &h.At), append(strs, &h.Class)
		}
	}
	return ints, strs
}

// P5.1: a class's own names.
func TestRightOfNames(t *testing.T) {
	for _, s := range []string{"", "1", "9a", "a b", "A;", "LA;", "é", "\x00", "a-b", longName + "n", strings.Repeat("n", 1<<20)} {
		for k, c := range []api.Class{{Name: s, Super: "Object"}, {Name: "A", Super: s}, {Name: s, Super: s},
			{Name: "A", Super: "B", Fields: []api.Field{{Name: s, Desc: "I"}}},
			{Name: "A", Super: "B", Methods: []api.Method{{Name: s, Sig: "()V", Locals: 1, Code: retV()}}},
			{Name: "A", Super: "B", Methods: []api.Method{{Name: "m", Sig: "()V", Locals: 1, Code: retV(), Hand: []api.Hand{{From: 0, To: 1, At: 0, Class: s}}}}}} {
			if e := klass.Right(c); e != api.ErrName {
				t.Errorf("%.30q as name %d: error %d", s, k, e)
			}
		}
	}
}

// P5.1: a name may be a field's and a method's and the class's.
func TestRightOfOneNameForThings(t *testing.T) {
	c := api.Class{Name: "x", Super: "x", Fields: []api.Field{{Name: "x", Desc: "Lx;"}}, Methods: []api.Method{{Name: "x", Sig: "()V", Locals: 1, Code: retV()}}}
	if e := klass.Right(c); e != api.OK {
		t.Errorf("error %d", e)
	}
	c.Fields = append(c.Fields, api.Field{Name: "x", Desc: "I"})
	if e := klass.Right(c); e != api.ErrTwice {
		t.Errorf("a field twice, of another type: error %d", e)
	}
	c.Fields = nil
	c.Methods = append(c.Methods, api.Method{Name: "x", Sig: "(I)V", Locals: 2, Code: retV()})
	if e := klass.Right(c); e != api.ErrTwice {
		t.Errorf("a method twice, of another Sig: error %d", e)
	}
}

// P5.1: fields' types.
func TestRightOfTypes(t *testing.T) {
	for _, d := range []string{"I", "B", "S", "LA;", "[I", "[[[[LA;", longType} {
		c := api.Class{Name: "A", Super: "B", Fields: []api.Field{{Name: "x", Desc: d}}}
		if e := klass.Right(c); e != api.OK {
			t.Errorf("%q: error %d", d, e)
		}
	}
	for _, d := range []string{"", "V", "N", "[V", "[N", "[", "II", "LA", "L;", "int", "()V", "[[[[[I", "L" + longName + "n;", strings.Repeat("[", 1<<20)} {
		c := api.Class{Name: "A", Super: "B", Fields: []api.Field{{Name: "x", Desc: d}}}
		if e := klass.Right(c); e != api.ErrDesc {
			t.Errorf("%.30q: error %d", d, e)
		}
	}
}

// P5.1: how many places a method has, by what it takes.
func TestRightOfLocals(t *testing.T) {
	for takes := range 7 {
		s := "(" + strings.Repeat("[LA;", takes) + ")V"
		for _, n := range []int{math.MinInt, -1, 0, 1, 2, 3, 4, 5, 6, 7, 8, 23, 24, 25, 26, 65535, 1 << 32, 1<<32 + 8, math.MaxInt} {
			want := api.ErrArg
			if n >= takes+1 && n <= 24 {
				want = api.OK
			}
			c := api.Class{Name: "A", Super: "B", Methods: []api.Method{{Name: "m", Sig: s, Locals: n, Code: retV()}}}
			if e := klass.Right(c); e != want {
				t.Errorf("%s with %d locals: error %d, want %d", s, n, e, want)
			}
		}
	}
}

// P5.1: code is held against the class's own constants and the method's own locals.
func TestRightOfCode(t *testing.T) {
	for _, x := range []struct {
		in   api.Ins
		want api.Errno
	}{
		{api.Ins{Op: api.Int, A: 0}, api.OK}, {api.Ins{Op: api.Int, A: 1}, api.ErrCode}, {api.Ins{Op: api.Int, A: 6}, api.ErrCode}, {api.Ins{Op: api.Int, A: -1}, api.ErrCode},
		{api.Ins{Op: api.Load, A: 2}, api.OK}, {api.Ins{Op: api.Store, A: 3}, api.ErrCode}, {api.Ins{Op: api.Load, A: math.MaxInt}, api.ErrCode},
		{api.Ins{Op: api.Jump, A: 1}, api.OK}, {api.Ins{Op: api.Jump, A: 2}, api.ErrCode}, {api.Ins{Op: api.JumpT, A: math.MinInt}, api.ErrCode},
		{api.Ins{Op: api.Nop, A: 1}, api.ErrCode}, {api.Ins{Op: -1}, api.ErrCode}, {api.Ins{Op: 46}, api.ErrCode},
		{api.Ins{Op: api.GetF, A: 2}, api.OK}, {api.Ins{Op: api.Old, A: 2}, api.ErrCode},
	} {
		c := rich()
		c.Methods = []api.Method{{Name: "m", Sig: "(I)V", Locals: 3, Code: []api.Ins{x.in, {Op: api.RetV}}}}
		if e := klass.Right(c); e != x.want {
			t.Errorf("%v: error %d, want %d", x.in, e, x.want)
		}
	}
}

// P5.1: where handlers stand, each side of each edge.
func TestRightOfHandlers(t *testing.T) {
	places := []int{math.MinInt, -1, 0, 1, 2, 3, 4, 512, 65535, math.MaxInt}
	for _, from := range places {
		for _, to := range places {
			for _, at := range places {
				want := api.ErrRange
				if from >= 0 && from < to && to <= 3 && at >= 0 && at < 3 {
					want = api.OK
				}
				h := api.Hand{From: from, To: to, At: at, Class: "Exc"}
				c := api.Class{Name: "A", Super: "B", Methods: []api.Method{{Name: "m", Sig: "()V", Locals: 1, Code: make([]api.Ins, 3), Hand: append(hands(2), h)}}}
				if e := klass.Right(c); e != want {
					t.Errorf("%v: error %d, want %d", h, e, want)
				}
			}
		}
	}
}

// P5.1: each number of parts, on both sides of its limit.
func TestRightOfHowMany(t *testing.T) {
	for name, x := range map[string]struct {
		most int
		make func(n int) api.Class
	}{
		"constants": {256, func(n int) api.Class { return api.Class{Consts: ints(n)} }},
		"fields":    {16, func(n int) api.Class { return api.Class{Fields: fields(n)} }},
		"methods":   {32, func(n int) api.Class { return api.Class{Methods: methods(n)} }},
		"instructions": {512, func(n int) api.Class {
			return api.Class{Methods: []api.Method{{Name: "m", Sig: "()V", Locals: 1, Code: make([]api.Ins, n)}}}
		}},
		"handlers": {8, func(n int) api.Class {
			return api.Class{Methods: []api.Method{{Name: "m", Sig: "()V", Locals: 1, Code: retV(), Hand: hands(n)}}}
		}},
	} {
		for _, n := range []int{x.most - 1, x.most, x.most + 1, 2 * x.most, 100 * x.most} {
			want := api.OK
			if n > x.most {
				want = api.ErrSize
			}
			c := x.make(n)
			c.Name, c.Super = "A", "B"
			if e := klass.Right(c); e != want {
				t.Errorf("%d %s: error %d, want %d", n, name, e, want)
			}
		}
	}
}

// P5.1, and the chapter's example.
func TestPutHasTheBytesThatTheChapterTells(t *testing.T) {
	b, e := klass.Put(bare())
	if want := "\x48\x42\x4b\x31\x02\x41\x0c\x4f\x62\x6a\x65\x63\x74\x00\x00\x00"; string(b) != want || e != api.OK {
		t.Errorf("Put of the example = % x, %d", b, e)
	}
	c := api.Class{Name: "A", Super: "B", Consts: []api.Const{{Kind: 1, N: -300}}, Fields: []api.Field{{Name: "x", Desc: "I"}},
		Methods: []api.Method{{Name: "m", Sig: "()V", Locals: 3, Code: []api.Ins{{Op: api.Int, A: 0}, {Op: api.RetV}}, Hand: []api.Hand{{From: 0, To: 2, At: 1, Class: "E"}}}}}
	want := "HBK1\x02A\x02B" + "\x02\x02\xd7\x04" + "\x02\x02x\x02I" + "\x02\x02m\x06()V\x06" + "\x04\x02\x00\x44" + "\x02\x00\x04\x02\x02E"
	if b, e := klass.Put(c); string(b) != want || e != api.OK {
		t.Errorf("Put = % x, %d, want % x", b, e, want)
	}
}

// P5.1.
func TestPutOfClassesThatCanBe(t *testing.T) {
	for i, c := range rights() {
		kept := whole(c)
		b, e := klass.Put(c)
		if e != api.OK || !bytes.Equal(b, bytesOf(c)) {
			t.Errorf("class %d: error %d, or other bytes", i, e)
		}
		if !alike(c, kept) {
			t.Errorf("class %d was changed", i)
		}
	}
}

// P5.1: with an error there are no bytes, and no class.
func TestPutAndCanonTellRightsError(t *testing.T) {
	for _, f := range faults() {
		c := rich()
		f.make(&c)
		if b, e := klass.Put(c); b != nil || e != f.want {
			t.Errorf("%s: Put = % x, %d", f.slot, b, e)
		}
		if k, e := klass.Canon(c); !alike(k, api.Class{}) || e != f.want {
			t.Errorf("%s: Canon = %#v, %d", f.slot, k, e)
		}
	}
}

// ofSize answers a class that can be, of so many bytes, from 65210 to 65800.
func ofSize(size int) api.Class {
	c := bare()
	for i := range 246 {
		c.Consts = append(c.Consts, api.Const{Kind: api.CMeth, S: longName, T: strings.Repeat("m", 21) + strconv.Itoa(i+100), U: longSig})
	}
	for left := size - len(bytesOf(c)); left > 0; left = size - len(bytesOf(c)) {
		n := min(left, 60)
		if left-n == 1 {
			n-- // No constant has but one byte.
		}
		c.Consts = append(c.Consts, api.Const{Kind: api.CStr, S: strings.Repeat(strconv.Itoa(len(c.Consts)), 20)[:n-2]})
	}
	return c
}

// P5.1: at the greatest size, and beyond it.
func TestPutOfSizes(t *testing.T) {
	for _, size := range []int{65530, 65534, 65535, 65536, 65537, 65538, 65600} {
		c := ofSize(size)
		if e := klass.Right(c); e != api.OK || len(bytesOf(c)) != size {
			t.Fatalf("%d bytes: Right tells %d of %d", size, e, len(bytesOf(c)))
		}
		b, e := klass.Put(c)
		if size <= 65536 && (e != api.OK || len(b) != size) || size > 65536 && (e != api.ErrSize || b != nil) {
			t.Errorf("%d bytes: Put = %d bytes, error %d", size, len(b), e)
		}
		d, e := klass.Get(bytesOf(c))
		if size <= 65536 && (e != api.OK || !alike(c, d)) || size > 65536 && (e != api.ErrSize || !alike(d, api.Class{})) {
			t.Errorf("%d bytes: Get: error %d", size, e)
		}
	}
}

// P5.1: what Get reads ahead of the parts.
func TestGetOfHeads(t *testing.T) {
	long := make([]byte, 65537)
	copy(long, "HBK1")
	for _, x := range []struct {
		b    []byte
		want api.Errno
	}{
		{nil, api.ErrForm}, {[]byte{}, api.ErrForm}, {[]byte("H"), api.ErrForm}, {[]byte("HB"), api.ErrForm}, {[]byte("HBK"), api.ErrForm},
		{[]byte("HBK1"), api.ErrShort}, {[]byte("HBK2\x02A"), api.ErrForm}, {[]byte("HBP1\x00\x00"), api.ErrForm}, {[]byte("hbk1\x02A"), api.ErrForm}, {[]byte("\x00HBK1"), api.ErrForm},
		{make([]byte, 65536), api.ErrForm}, {make([]byte, 65537), api.ErrSize}, {long, api.ErrSize}, {long[:65536], api.ErrForm}, {make([]byte, 1<<20), api.ErrSize},
	} {
		if c, e := klass.Get(x.b); e != x.want || !alike(c, api.Class{}) {
			t.Errorf("Get of %d bytes, % x ..: error %d, want %d", len(x.b), x.b[:min(len(x.b), 8)], e, x.want)
		}
	}
}

// P5.1: the error of each part, told by what no later part could tell.
func TestGetOfPartsThatCanNotBe(t *testing.T) {
	head := join([]byte("HBK1"), text("A"), text("B"))
	method := join(head, number(0), number(0), number(1), text("m"), text("()V"))
	hand := join(method, number(1), bytesOfCode(retV()))
	for _, x := range []struct {
		name string
		b    []byte
		want api.Errno
	}{
		{"a long name", join([]byte("HBK1"), text(strings.Repeat("n", 257))), api.ErrSize},
		{"a name that is none", join([]byte("HBK1"), text(strings.Repeat("n", 256))), api.ErrShort},
		{"a name shorter than it says", []byte("HBK1\x0aab"), api.ErrShort},
		{"a name below 0", []byte("HBK1\x01ab"), api.ErrSize},
		{"a long super", join([]byte("HBK1"), text("A"), text(strings.Repeat("n", 257))), api.ErrSize},
		{"constants below 0", join(head, number(-1)), api.ErrSize},
		{"constants above 256", join(head, number(257)), api.ErrSize},
		{"constants of two bytes too many", join(head, []byte{0x80, 0}), api.ErrForm},
		{"a constant that is none", join(head, number(1), number(6)), api.ErrConst},
		{"constants twice", join(head, bytesOfConsts(append(ints(1), ints(1)...))), api.ErrTwice},
		{"fields below 0", join(head, number(0), number(-1)), api.ErrSize},
		{"fields above 16", join(head, number(0), number(17)), api.ErrSize},
		{"16 fields, none there", join(head, number(0), number(16)), api.ErrShort},
		{"a field's long name", join(head, number(0), number(1), text(strings.Repeat("n", 257))), api.ErrSize},
		{"a field's long type", join(head, number(0), number(1), text("x"), text(strings.Repeat("n", 257))), api.ErrSize},
		{"methods below 0", join(head, number(0), number(0), number(-1)), api.ErrSize},
		{"methods above 32", join(head, number(0), number(0), number(33)), api.ErrSize},
		{"32 methods, none there", join(head, number(0), number(0), number(32)), api.ErrShort},
		{"a method's long name", join(head, number(0), number(0), number(1), text(strings.Repeat("n", 257))), api.ErrSize},
		{"a method's long sig", join(head, number(0), number(0), number(1), text("m"), text(strings.Repeat("n", 257))), api.ErrSize},
		{"locals below 0", join(method, number(-1)), api.ErrArg},
		{"locals above 65535", join(method, number(65536)), api.ErrArg},
		{"locals far above", join(method, number(1<<32)), api.ErrArg},
		{"locals of 65535", join(method, number(65535)), api.ErrShort},
		{"locals that Right refuses", join(method, number(65535), bytesOfCode(retV()), number(0)), api.ErrArg},
		{"instructions below 0", join(method, number(1), number(-1)), api.ErrSize},
		{"instructions above 512", join(method, number(1), number(513)), api.ErrSize},
		{"no instruction", join(method, number(1), number(0), number(0)), api.ErrSize},
		{"an instruction that is none", join(method, number(1), number(1), number(46)), api.ErrCode},
		{"an A that is too great", join(method, number(1), number(1), number(api.Load), number(65536)), api.ErrCode},
		{"handlers below 0", join(hand, number(-1)), api.ErrSize},
		{"handlers above 8", join(hand, number(9)), api.ErrSize},
		{"8 handlers, none there", join(hand, number(8)), api.ErrShort},
		{"a From below 0", join(hand, number(1), number(-1)), api.ErrArg},
		{"a From above 65535", join(hand, number(1), number(65536)), api.ErrArg},
		{"a To below 0", join(hand, number(1), number(65535), number(-1)), api.ErrArg},
		{"a To above 65535", join(hand, number(1), number(65535), number(65536)), api.ErrArg},
		{"an At below 0", join(hand, number(1), number(0), number(65535), number(-1)), api.ErrArg},
		{"an At above 65535", join(hand, number(1), number(0), number(65535), number(65536)), api.ErrArg},
		{"a handler's long class", join(hand, number(1), number(0), number(1), number(65535), text(strings.Repeat("n", 257))), api.ErrSize},
		{"a handler that Right refuses", join(hand, number(1), number(0), number(1), number(65535), text("E")), api.ErrRange},
	} {
		if c, e := klass.Get(x.b); e != x.want || !alike(c, api.Class{}) {
			t.Errorf("%s: error %d, want %d", x.name, e, x.want)
		}
	}
}

// P5.1: bytes that are left, ahead of Right's error, behind the parts'.
func TestGetOfBytesThatAreLeft(t *testing.T) {
	for i, c := range rights() {
		for _, more := range []string{"\x00", "\x80", "HBK1", strings.Repeat("\x00", 300)} {
			if _, e := klass.Get(append(bytesOf(c), more...)); e != api.ErrForm {
				t.Errorf("class %d with %d more: error %d", i, len(more), e)
			}
		}
	}
	for _, f := range faults() {
		c := rich()
		f.make(&c)
		b := bytesOf(c)
		_, alone := got(b)
		if _, e := klass.Get(b); e != alone {
			t.Errorf("%s: error %d, want %d", f.slot, e, alone)
		}
		_, want := got(append(b, 0))
		if _, e := klass.Get(append(b, 0)); e != want {
			t.Errorf("%s with one more: error %d, want %d", f.slot, e, want)
		}
	}
}

func holdGet(t *testing.T, b []byte) {
	t.Helper()
	c, e := klass.Get(b)
	want, wantE := got(b)
	if e != wantE || !alike(c, want) {
		t.Fatalf("Get(% x) = %#v, %d, want %#v, %d", b, c, e, want, wantE)
	}
	if e == api.OK {
		if again, e := klass.Put(c); e != api.OK || !bytes.Equal(again, b) {
			t.Fatalf("Put of Get(% x) = % x, %d", b, again, e)
		}
	}
}

// P5.1 and P5.4: at each place of the bytes each other byte, one less and one more.
func TestGetOfBytesThatAreOthers(t *testing.T) {
	for _, c := range []api.Class{bare(), rich()} {
		b := bytesOf(c)
		for at := range b {
			holdGet(t, b[:at])
			holdGet(t, slices.Delete(bytes.Clone(b), at, at+1))
			for x := range 256 {
				other := bytes.Clone(b)
				other[at] = byte(x)
				holdGet(t, other)
			}
			for _, x := range []byte{0, 1, 2, 0x7f, 0x80, 0xff} {
				holdGet(t, slices.Insert(bytes.Clone(b), at, x))
			}
		}
	}
}

// P5.4.
func TestClassesAreGotAsTheyWerePut(t *testing.T) {
	for i, c := range rights() {
		b, e := klass.Put(c)
		if e != api.OK {
			t.Fatalf("class %d: Put tells %d", i, e)
		}
		kept := bytes.Clone(b)
		d, e := klass.Get(b)
		if e != api.OK || !alike(c, d) {
			t.Errorf("class %d: Get tells %d, or another class", i, e)
		}
		if !bytes.Equal(b, kept) {
			t.Errorf("class %d: Get changed the bytes", i)
		}
		if again, e := klass.Put(d); e != api.OK || !bytes.Equal(b, again) {
			t.Errorf("class %d: Put of Get tells %d, or other bytes", i, e)
		}
		clear(b)
		if !alike(c, d) {
			t.Errorf("class %d hangs on its bytes", i)
		}
	}
}

// P5.2.
func TestFieldAndMethodAnswerTheFirstPlace(t *testing.T) {
	c := rich()
	for i, n := range []string{"x", "next", "s"} {
		if at := klass.Field(c, n); at != i {
			t.Errorf("Field %s at %d", n, at)
		}
	}
	for i, n := range []string{"m", "n", "x"} {
		if at := klass.Method(c, n); at != i {
			t.Errorf("Method %s at %d", n, at)
		}
	}
	for _, n := range []string{"", "X", "A", "xx", "Base", "I"} {
		if f, m := klass.Field(c, n), klass.Method(c, n); f != -1 || m != -1 {
			t.Errorf("%q stands at %d, %d", n, f, m)
		}
	}
	if f, m := klass.Field(c, "m"), klass.Method(c, "next"); f != -1 || m != -1 {
		t.Errorf("a field is a method: %d, %d", f, m)
	}
	if f, m := klass.Field(api.Class{}, ""), klass.Method(api.Class{}, ""); f != -1 || m != -1 {
		t.Errorf("of nothing: %d, %d", f, m)
	}
}

// P5.2: of classes that can not be, too.
func TestFieldAndMethodOfWrongClasses(t *testing.T) {
	c := api.Class{Fields: []api.Field{{Name: "a"}, {Name: ""}, {Name: "b"}, {Name: "b"}, {Name: ""}},
		Methods: []api.Method{{Name: "b"}, {Name: "b"}, {Name: "9 9"}, {Name: ""}, {Name: ""}}}
	if at := []int{klass.Field(c, ""), klass.Field(c, "b"), klass.Method(c, ""), klass.Method(c, "b"), klass.Method(c, "9 9")}; !slices.Equal(at, []int{1, 2, 3, 0, 2}) {
		t.Errorf("they stand at %v", at)
	}
}

// changes are each another class than rich, in one thing.
func changes() []func(c *api.Class) {
	return []func(c *api.Class){
		func(c *api.Class) { c.Name = "B" },
		func(c *api.Class) { c.Super = "A" },
		func(c *api.Class) { c.Consts[0].N++ },
		func(c *api.Class) { c.Consts[0].Kind = 2 },
		func(c *api.Class) { c.Consts[2].S = "B" },
		func(c *api.Class) { c.Consts[2].T = "y" },
		func(c *api.Class) { c.Consts[2].U = "B" },
		func(c *api.Class) { c.Consts = c.Consts[:5] },
		func(c *api.Class) { c.Consts = nil },
		func(c *api.Class) { c.Consts[0], c.Consts[1] = c.Consts[1], c.Consts[0] },
		func(c *api.Class) { c.Fields[1].Name = "y" },
		func(c *api.Class) { c.Fields[1].Desc = "I" },
		func(c *api.Class) { c.Fields = c.Fields[:2] },
		func(c *api.Class) { c.Fields = nil },
		func(c *api.Class) { c.Fields = append(c.Fields, api.Field{}) },
		func(c *api.Class) { c.Fields[0], c.Fields[1] = c.Fields[1], c.Fields[0] },
		func(c *api.Class) { c.Methods[2].Name = "q" },
		func(c *api.Class) { c.Methods[2].Sig = "()I" },
		func(c *api.Class) { c.Methods[2].Locals-- },
		func(c *api.Class) { c.Methods[1].Code[3].Op = api.RetV },
		func(c *api.Class) { c.Methods[1].Code[0].A = 5 },
		func(c *api.Class) { c.Methods[1].Code = c.Methods[1].Code[:3] },
		func(c *api.Class) { c.Methods[1].Code = nil },
		func(c *api.Class) { c.Methods[0].Hand[1].From = 1 },
		func(c *api.Class) { c.Methods[0].Hand[1].To = 4 },
		func(c *api.Class) { c.Methods[0].Hand[1].At = 1 },
		func(c *api.Class) { c.Methods[0].Hand[1].Class = "Exc" },
		func(c *api.Class) { c.Methods[0].Hand = c.Methods[0].Hand[:1] },
		func(c *api.Class) { c.Methods[1].Hand = nil },
		func(c *api.Class) { c.Methods = c.Methods[:2] },
		func(c *api.Class) { c.Methods = nil },
		func(c *api.Class) { c.Methods = append(c.Methods, api.Method{}) },
		func(c *api.Class) { c.Methods[0], c.Methods[2] = c.Methods[2], c.Methods[0] },
	}
}

// P5.2.
func TestSameSeesEachChange(t *testing.T) {
	for i, change := range changes() {
		c := rich()
		change(&c)
		if klass.Same(rich(), c) || klass.Same(c, rich()) {
			t.Errorf("change %d is not seen", i)
		}
		if !klass.Same(c, whole(c)) {
			t.Errorf("change %d is not the same as itself", i)
		}
	}
	for i, c := range rights() {
		for k, d := range rights() {
			if klass.Same(c, d) != (i == k) {
				t.Errorf("classes %d and %d", i, k)
			}
		}
	}
}

// P5.2.
func TestSameOfListsOfNone(t *testing.T) {
	a := bare()
	b := api.Class{Name: "A", Super: "Object", Consts: []api.Const{}, Fields: []api.Field{}, Methods: []api.Method{}}
	if !klass.Same(a, b) || !klass.Same(b, a) || !klass.Same(api.Class{}, api.Class{}) {
		t.Error("lists of none that are nil are not the same as those that are not")
	}
	a.Methods = []api.Method{{Name: "m"}}
	b.Methods = []api.Method{{Name: "m", Code: []api.Ins{}, Hand: []api.Hand{}}}
	if !klass.Same(a, b) || !klass.Same(b, a) {
		t.Error("a method's lists of none are not the same")
	}
}

// P5.3, by hand: constants in the order of their first use, methods in order.
func TestCanonOfRich(t *testing.T) {
	c := rich()
	k, e := klass.Canon(c)
	want := rich()
	want.Consts = []api.Const{c.Consts[1], c.Consts[5], c.Consts[2], c.Consts[0], c.Consts[3]}
	want.Methods[0].Code = []api.Ins{{Op: api.Str, A: 0}, {Op: api.Print}, {Op: api.Load, A: 3}, {Op: api.Int, A: 1}, {Op: api.JumpF, A: 2}, {Op: api.Int, A: 1}, {Op: api.GetF, A: 2}, {Op: api.RetV}}
	want.Methods[1].Code = []api.Ins{{Op: api.Int, A: 3}, {Op: api.Int, A: 1}, {Op: api.Call, A: 4}, {Op: api.Ret}}
	if e != api.OK || !alike(k, want) {
		t.Errorf("Canon = %#v, %d, want %#v", k, e, want)
	}
}

// P5.3: constants of each kind, and no other A.
func TestCanonOfEachInstruction(t *testing.T) {
	c := bare()
	c.Consts = append(ints(3), rich().Consts...)
	var code []api.Ins
	for op := range api.Old {
		code = append(code, api.Ins{Op: op})
	}
	for op, a := range map[int]int{api.Int: 8, api.Str: 4, api.New: 7, api.Arr: 7, api.Cast: 7, api.Is: 7, api.GetF: 5, api.PutF: 5, api.Call: 6, api.Load: 9, api.Store: 9, api.Jump: 11, api.JumpT: 12, api.JumpF: 13} {
		code[op].A = a
	}
	c.Methods = []api.Method{{Name: "m", Sig: "()V", Locals: 10, Code: code}}
	k, e := klass.Canon(c)
	if e != api.OK || !alike(k, canon(c)) || len(k.Consts) != 5 || k.Methods[0].Code[api.Load].A != 9 || k.Methods[0].Code[api.JumpF].A != 13 {
		t.Errorf("Canon = %#v, %d", k, e)
	}
}

// P5.3 and P5.5.
func TestCanonOfClassesThatCanBe(t *testing.T) {
	for i, c := range rights() {
		kept := whole(c)
		k, e := klass.Canon(c)
		if e != api.OK || !alike(k, canon(c)) {
			t.Errorf("class %d: error %d, or another class", i, e)
		}
		if !alike(c, kept) {
			t.Errorf("class %d was changed", i)
		}
		if e := klass.Right(k); e != api.OK {
			t.Errorf("class %d: Right of Canon tells %d", i, e)
		}
		again, e := klass.Canon(k)
		if e != api.OK || !alike(k, again) {
			t.Errorf("class %d: Canon of Canon is another one", i)
		}
	}
}

// P5.5: constants that nothing uses, ahead, between and behind those that code does.
func TestCanonStaysWhateverIsAdded(t *testing.T) {
	want, _ := klass.Canon(rich())
	for at := range len(rich().Consts) + 1 {
		for _, more := range [][]api.Const{ints(1), ints(5), ints(250), {{Kind: api.CType, S: "I"}, {Kind: api.CStr, S: ""}}} {
			c := rich()
			c.Consts = slices.Insert(c.Consts, at, more...)
			for m := range c.Methods {
				for i, in := range c.Methods[m].Code {
					if uses := in.Op == api.Int || in.Op == api.Str || in.Op == api.GetF || in.Op == api.Call; uses && in.A >= at {
						c.Methods[m].Code[i].A += len(more)
					}
				}
			}
			if k, e := klass.Canon(c); e != api.OK || !alike(k, want) {
				t.Errorf("%d constants at %d: error %d, or another class", len(more), at, e)
			}
		}
	}
}

// spoil writes into all lists of a class, and behind their ends.
func spoil(c api.Class) {
	for i := range c.Methods {
		m := &c.Methods[i]
		for k := range m.Code {
			m.Code[k] = api.Ins{Op: 99, A: 99}
		}
		for k := range m.Hand {
			m.Hand[k] = api.Hand{From: 99}
		}
		_ = append(m.Code, api.Ins{Op: 98})
		_ = append(m.Hand, api.Hand{From: 98})
		*m = api.Method{Name: "spoilt"}
	}
	for i := range c.Fields {
		c.Fields[i] = api.Field{Name: "spoilt"}
	}
	for i := range c.Consts {
		c.Consts[i] = api.Const{Kind: 99}
	}
	_ = append(c.Consts, api.Const{Kind: 98})
	_ = append(c.Fields, api.Field{Name: "behind"})
	_ = append(c.Methods, api.Method{Name: "behind"})
}

// Rules 4 and 5 of the document.
func TestAnswersShareNoMemory(t *testing.T) {
	for i, c := range rights() {
		kept := whole(c)
		first, _ := klass.Canon(c)
		wanted := whole(first)
		second, _ := klass.Canon(c)
		spoil(first)
		if !alike(second, wanted) || !alike(c, kept) {
			t.Errorf("class %d: Canon shares memory", i)
		}
		b, _ := klass.Put(c)
		one, _ := klass.Get(b)
		two, _ := klass.Get(b)
		spoil(one)
		if !alike(two, kept) || !bytes.Equal(b, bytesOf(kept)) {
			t.Errorf("class %d: Get shares memory", i)
		}
		again, _ := klass.Put(c)
		clear(b)
		_ = append(b, 1, 2, 3)
		if !bytes.Equal(again, bytesOf(kept)) {
			t.Errorf("class %d: Put shares memory", i)
		}
		spoil(c)
		if !alike(second, wanted) || !bytes.Equal(again, bytesOf(kept)) {
			t.Errorf("class %d: an answer hangs on what was handed in", i)
		}
	}
}

// The lists of one answer: a list of none has no room that another one has.
func TestListsOfOneAnswerShareNoMemory(t *testing.T) {
	c := bare()
	c.Methods = methods(2)
	code := make([]api.Ins, 4, 8)
	c.Methods[0].Code, c.Methods[1].Code = code[:2], code[:3]
	k, e := klass.Canon(c)
	if e != api.OK {
		t.Fatal(e)
	}
	k.Methods[0].Code[0].Op = api.Dup
	_ = append(k.Methods[0].Code, api.Ins{Op: api.Dup})
	if k.Methods[1].Code[0].Op != api.Nop || k.Methods[1].Code[2].Op != api.Nop || code[0].Op != api.Nop {
		t.Error("two codes are one")
	}
}

// P5.1 to P5.3: no bytes make a call panic, or hold otherwise than the words say.
func FuzzGet(f *testing.F) {
	for _, c := range []api.Class{bare(), rich()} {
		f.Add(bytesOf(c))
	}
	f.Fuzz(func(t *testing.T, b []byte) {
		holdGet(t, b)
		c, e := klass.Get(b)
		if k, e2 := klass.Canon(c); e == api.OK && (e2 != api.OK || !alike(k, canon(c))) {
			t.Errorf("Canon of Get(% x) = %#v, %d", b, k, e2)
		}
	})
}
