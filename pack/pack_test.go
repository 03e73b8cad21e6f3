package pack_test

import (
	"bytes"
	"math"
	"slices"
	"strconv"
	"strings"
	"testing"

	"hornbook/api"
	"hornbook/bin"
	"hornbook/klass"
	"hornbook/pack"
)

var (
	longName = strings.Repeat("n", 24)
	longType = "[[[[L" + longName + ";"
	longSig  = "(" + strings.Repeat(longType, 6) + ")" + longType
)

// class has a name, and one field.
func class(name string) api.Class {
	return api.Class{Name: name, Super: "Object", Fields: []api.Field{{Name: "x", Desc: "I"}}}
}

// classes are so many.
func classes(n int) []api.Class {
	var l []api.Class
	for i := range n {
		l = append(l, class("C"+strconv.Itoa(i)))
	}
	return l
}

// turns are so many, of the classes.
func turns(n int) []api.Turn {
	var l []api.Turn
	for i := range n {
		l = append(l, api.Turn{Class: "C" + strconv.Itoa(i)})
	}
	return l
}

// moves are so many.
func moves(n int) []api.Move {
	var l []api.Move
	for i := range n {
		l = append(l, api.Move{Field: "f" + strconv.Itoa(i)})
	}
	return l
}

// ints are so many constants, of which no two are alike.
func ints(n int) []api.Const {
	var l []api.Const
	for i := range n {
		l = append(l, api.Const{Kind: api.CInt, N: int64(i) * 1000})
	}
	return l
}

// rich has of each part more than one.
func rich() api.Bundle {
	b := class("B")
	b.Super = "A"
	b.Consts = []api.Const{{Kind: api.CInt, N: 9}}
	b.Methods = []api.Method{{Name: "m", Sig: "(I)I", Locals: 2, Code: []api.Ins{{Op: api.Int, A: 0}, {Op: api.Ret}}, Hand: []api.Hand{{From: 0, To: 1, At: 1, Class: "Exc"}}}}
	return api.Bundle{
		Classes: []api.Class{class("A"), b, class("C")},
		Turns: []api.Turn{
			{Class: "B",
				Consts: []api.Const{{Kind: api.CField, S: "B", T: "y", U: "I"}, {Kind: api.CInt, N: -300}, {Kind: api.CStr, S: "hi"}},
				Moves: []api.Move{
					{Field: "x", Kind: api.Made, Code: []api.Ins{{Op: api.Old, A: 0}, {Op: api.Int, A: 1}, {Op: api.Add}}},
					{Field: "z", Kind: api.Copy, From: "y"},
					{Field: "w", Kind: api.Zero},
				}},
			{Class: "A",
				Consts: []api.Const{{Kind: api.CInt, N: 5}, {Kind: api.CField, S: "A", T: "q", U: "B"}},
				Moves: []api.Move{
					{Field: "x", Kind: api.Made, Code: []api.Ins{{Op: api.Int, A: 0}, {Op: api.Neg}}},
					{Field: "y", Kind: api.Copy, From: "x"},
				}},
		},
	}
}

// made is a bundle with one move of this code.
func made(consts []api.Const, code ...api.Ins) api.Bundle {
	return api.Bundle{Classes: classes(1), Turns: []api.Turn{{Class: "C0", Consts: consts, Moves: []api.Move{{Field: "x", Kind: api.Made, Code: code}}}}}
}

// one is a bundle with one move.
func one(m api.Move) api.Bundle {
	return api.Bundle{Classes: classes(1), Turns: []api.Turn{{Class: "C0", Moves: []api.Move{m}}}}
}

// rights can be.
func rights() []api.Bundle {
	all := api.Bundle{Classes: classes(32), Turns: turns(32)}
	slices.Reverse(all.Turns)
	for i := range all.Turns {
		all.Turns[i].Moves = moves(16)
	}
	return []api.Bundle{
		{},
		{Classes: classes(1)},
		{Classes: classes(32)},
		rich(),
		all,
		one(api.Move{Field: longName, Kind: api.Copy, From: longName}),
		one(api.Move{Field: "_", Kind: api.Copy, From: "_"}),
		{Classes: classes(1), Turns: []api.Turn{{Class: "C0", Consts: ints(256)}}},
		made(ints(256), append(make([]api.Ins, 511), api.Ins{Op: api.Int, A: 255})...),
	}
}

// fault is what makes rich a bundle that can not be; of a slot two can not be at once.
type fault struct {
	slot string
	want api.Errno
	make func(x *api.Bundle)
}

// faults are in the order of the chapter.
func faults() []fault {
	l := []fault{
		{"classes", api.ErrSize, func(x *api.Bundle) { x.Classes = append(x.Classes, classes(30)...) }},
		{"class 0", api.ErrDesc, func(x *api.Bundle) { x.Classes[0].Fields[0].Desc = "V" }},
		{"class 1", api.ErrArg, func(x *api.Bundle) { x.Classes[1].Methods[0].Locals = 25 }},
		{"class 1's name", api.ErrTwice, func(x *api.Bundle) { x.Classes[1].Name = "A" }},
		{"class 2", api.ErrName, func(x *api.Bundle) { x.Classes[2].Super = "" }},
		{"class 2's name", api.ErrTwice, func(x *api.Bundle) { x.Classes[2].Name = "A" }},
		{"turns", api.ErrSize, func(x *api.Bundle) { x.Turns = append(x.Turns, turns(31)...) }},
	}
	for i := range 2 {
		l = append(l, faultsOfTurn(i)...)
	}
	return l
}

// faultsOfTurn are those of one of the two turns.
func faultsOfTurn(i int) []fault {
	slot := "turn " + strconv.Itoa(i)
	move := func(k int, change func(m *api.Move)) func(x *api.Bundle) {
		return func(x *api.Bundle) { change(&x.Turns[i].Moves[k]) }
	}
	l := []fault{
		{slot, api.ErrNone, func(x *api.Bundle) { x.Turns[i].Class = "D" }},
		{slot + "'s consts", api.ErrSize, func(x *api.Bundle) { x.Turns[i].Consts = append(x.Turns[i].Consts, ints(257)...) }},
		{slot + "'s const", api.ErrConst, func(x *api.Bundle) { x.Turns[i].Consts[1] = api.Const{Kind: 6} }},
		{slot + "'s first", api.ErrTwice, func(x *api.Bundle) { x.Turns[i].Consts[0] = x.Turns[i].Consts[1] }},
		{slot + "'s moves", api.ErrSize, func(x *api.Bundle) { x.Turns[i].Moves = append(x.Turns[i].Moves, moves(15)...) }},
		{slot + "'s move 0", api.ErrName, move(0, func(m *api.Move) { m.Field = "1" })},
		{slot + "'s kind 0", api.ErrArg, move(0, func(m *api.Move) { m.Kind = 3 })},
		{slot + "'s from 0", api.ErrArg, move(0, func(m *api.Move) { m.From = "x" })},
		{slot + "'s code 0", api.ErrSize, move(0, func(m *api.Move) { m.Code = nil })},
		{slot + "'s code 0", api.ErrCode, move(0, func(m *api.Move) { m.Code = []api.Ins{{Op: api.Null}} })},
		{slot + "'s move 1", api.ErrName, move(1, func(m *api.Move) { m.Field = "" })},
		{slot + "'s move 1", api.ErrTwice, move(1, func(m *api.Move) { m.Field = "x" })},
		{slot + "'s from 1", api.ErrName, move(1, func(m *api.Move) { m.From = "" })},
		{slot + "'s code 1", api.ErrArg, move(1, func(m *api.Move) { m.Code = []api.Ins{{Op: api.Nop}} })},
	}
	if i > 0 {
		l = slices.Insert(l, 1, fault{slot, api.ErrTwice, func(x *api.Bundle) { x.Turns[i].Class = "B" }})
	}
	return l
}

// P6.1: each error, and of two the one that is named first.
func TestRightTellsTheFirstError(t *testing.T) {
	l := faults()
	for i, f := range l {
		x := rich()
		f.make(&x)
		if e := pack.Right(x); e != f.want {
			t.Errorf("%s: error %d, want %d", f.slot, e, f.want)
		}
		for _, g := range l[i+1:] {
			// A class of another name, and constants that are others, are no second fault.
			if g.slot == f.slot || strings.HasSuffix(f.slot, "const") && strings.HasSuffix(g.slot, "first") {
				continue
			}
			x := rich()
			f.make(&x)
			g.make(&x)
			if e := pack.Right(x); e != f.want {
				t.Errorf("%s and %s: error %d, want %d", f.slot, g.slot, e, f.want)
			}
		}
	}
}

// P6.1: of constants ErrConst is named ahead of ErrTwice, wherever they stand.
func TestRightOfConstantsThatCanNotBe(t *testing.T) {
	for _, l := range [][]api.Const{append(append(ints(1), ints(1)...), api.Const{}), append([]api.Const{{Kind: 6}}, slices.Repeat(ints(1), 2)...)} {
		x := made(l, api.Ins{Op: api.True})
		if e := pack.Right(x); e != api.ErrConst {
			t.Errorf("%v: error %d", l, e)
		}
	}
	if e := pack.Right(made(slices.Repeat(ints(1), 257), api.Ins{Op: api.True})); e != api.ErrSize {
		t.Errorf("257 alike: error %d", e)
	}
}

// P6.1: all that can be, with all that there may be.
func TestRightOfBundlesThatCanBe(t *testing.T) {
	for i, x := range rights() {
		if e := pack.Right(x); e != api.OK {
			t.Errorf("bundle %d: error %d", i, e)
		}
	}
}

// P6.1: each number of parts, on both sides of its limit.
func TestRightOfHowMany(t *testing.T) {
	for name, x := range map[string]struct {
		most int
		make func(n int) api.Bundle
	}{
		"classes":   {32, func(n int) api.Bundle { return api.Bundle{Classes: classes(n)} }},
		"turns":     {32, func(n int) api.Bundle { return api.Bundle{Classes: classes(32), Turns: turns(n)} }},
		"constants": {256, func(n int) api.Bundle { return made(ints(n), api.Ins{Op: api.True}) }},
		"moves": {16, func(n int) api.Bundle {
			return api.Bundle{Classes: classes(1), Turns: []api.Turn{{Class: "C0", Moves: moves(n)}}}
		}},
		"instructions": {512, func(n int) api.Bundle { return made(nil, make([]api.Ins, n)...) }},
	} {
		for _, n := range []int{x.most - 1, x.most, x.most + 1, 2 * x.most, 100 * x.most} {
			want := api.OK
			if n > x.most {
				want = api.ErrSize
			}
			if e := pack.Right(x.make(n)); e != want {
				t.Errorf("%d %s: error %d, want %d", n, name, e, want)
			}
		}
	}
}

// P6.1: the names of fields, new and old.
func TestRightOfNames(t *testing.T) {
	for _, s := range []string{"", "1", "9a", "a b", "A;", "é", "\x00", "a-b", longName + "n", strings.Repeat("n", 1<<20)} {
		for i, m := range []api.Move{{Field: s}, {Field: s, Kind: api.Copy, From: "x"}, {Field: s, Kind: api.Made}, {Field: s, Kind: 9}, {Field: "x", Kind: api.Copy, From: s}} {
			if e := pack.Right(one(m)); e != api.ErrName {
				t.Errorf("move %d of %.30q: error %d", i, s, e)
			}
		}
	}
}

// P6.1: what a move has, by its kind.
func TestRightOfKinds(t *testing.T) {
	code := []api.Ins{{Op: api.True}}
	for _, x := range []struct {
		move api.Move
		want api.Errno
	}{
		{api.Move{Kind: api.Zero}, api.OK},
		{api.Move{Kind: api.Zero, Code: []api.Ins{}}, api.OK},
		{api.Move{Kind: api.Zero, From: "x"}, api.ErrArg},
		{api.Move{Kind: api.Zero, From: "1"}, api.ErrArg},
		{api.Move{Kind: api.Zero, Code: code}, api.ErrArg},
		{api.Move{Kind: api.Copy, From: "x"}, api.OK},
		{api.Move{Kind: api.Copy, From: "f", Code: []api.Ins{}}, api.OK},
		{api.Move{Kind: api.Copy, From: "x", Code: code}, api.ErrArg},
		{api.Move{Kind: api.Copy, Code: code}, api.ErrName},
		{api.Move{Kind: api.Copy, Code: []api.Ins{{Op: api.Read}}, From: "x"}, api.ErrArg},
		{api.Move{Kind: api.Made, Code: code}, api.OK},
		{api.Move{Kind: api.Made, Code: code, From: "x"}, api.ErrArg},
		{api.Move{Kind: api.Made, From: "x"}, api.ErrArg},
		{api.Move{Kind: api.Made}, api.ErrSize},
		{api.Move{Kind: api.Made, Code: []api.Ins{}}, api.ErrSize},
		{api.Move{Kind: -1}, api.ErrArg},
		{api.Move{Kind: 3}, api.ErrArg},
		{api.Move{Kind: math.MinInt}, api.ErrArg},
		{api.Move{Kind: math.MaxInt, Code: code}, api.ErrArg},
		{api.Move{Kind: 1 << 32}, api.ErrArg},
		{api.Move{Kind: 1<<32 + 2, Code: code}, api.ErrArg},
	} {
		x.move.Field = "f"
		if e := pack.Right(one(x.move)); e != x.want {
			t.Errorf("%v: error %d, want %d", x.move, e, x.want)
		}
	}
}

// P6.1: each instruction that there is, and some that there are not.
func TestRightOfEachInstruction(t *testing.T) {
	consts := []api.Const{{Kind: api.CInt, N: 1}, {Kind: api.CStr, S: "hi"}, {Kind: api.CType, S: "LA;"}, {Kind: api.CField, S: "A", T: "x", U: "I"}, {Kind: api.CMeth, S: "A", T: "m", U: "()V"}}
	may := []int{api.Nop, api.Int, api.True, api.False, api.Old, api.Pop, api.Dup, api.Add, api.Sub, api.Mul, api.Div, api.Rem, api.Neg, api.Not, api.Lt, api.Le, api.EqI, api.EqB}
	for op := -3; op < api.Ops+3; op++ {
		for a := -1; a < 6; a++ {
			in := api.Ins{Op: op, A: a}
			want := api.ErrCode
			if slices.Contains(may, op) && (a == 0 && op != api.Old || a == 3 && op == api.Old) {
				want = api.OK
			}
			if e := pack.Right(made(consts, api.Ins{Op: api.True}, in, api.Ins{Op: api.Neg})); e != want {
				t.Errorf("%v: error %d, want %d", in, e, want)
			}
		}
	}
	// The class's own constants are not the turn's.
	x := made(nil, api.Ins{Op: api.Int})
	x.Classes[0].Consts = ints(5)
	if e := pack.Right(x); e != api.ErrCode {
		t.Errorf("a constant of the class: error %d", e)
	}
}

// P6.1: a class, a turn, a field twice, next to each other and not.
func TestRightOfWhatStandsTwice(t *testing.T) {
	for i := range 4 {
		for k := range 4 {
			x := api.Bundle{Classes: classes(4), Turns: turns(4)}
			for n := range x.Turns {
				x.Turns[n].Moves = moves(4)
			}
			want := api.ErrTwice
			if i == k {
				want = api.OK
			}
			y, z := whole(x), whole(x)
			x.Classes[i].Name, x.Turns = x.Classes[k].Name, nil
			y.Turns[i].Class = y.Turns[k].Class
			z.Turns[2].Moves[i].Field = z.Turns[2].Moves[k].Field
			if a, b, c := pack.Right(x), pack.Right(y), pack.Right(z); a != want || b != want || c != want {
				t.Errorf("%d and %d: errors %d, %d, %d, want %d", i, k, a, b, c, want)
			}
		}
	}
}

// P6.1: a turn is of a class of the bundle.
func TestRightOfTurnsOfNoClass(t *testing.T) {
	for _, s := range []string{"", "c0", "C", "C00", "Object", "x", "1"} {
		x := api.Bundle{Classes: classes(3), Turns: []api.Turn{{Class: s}}}
		if e := pack.Right(x); e != api.ErrNone {
			t.Errorf("a turn of %q: error %d", s, e)
		}
	}
	if e := pack.Right(api.Bundle{Turns: turns(1)}); e != api.ErrNone {
		t.Errorf("no classes: error %d", e)
	}
	if e := pack.Right(api.Bundle{Turns: turns(33)}); e != api.ErrSize {
		t.Errorf("no classes, too many turns: error %d", e)
	}
}

// P6.1: each number and each text of a turn is each of many that can be and can not.
func TestRightOfEachPartInItsPlace(t *testing.T) {
	numbers := []int{math.MinInt, -2, -1, 0, 1, 2, 3, 4, 5, 19, 31, 45, 46, 256, 65535, 65536, 1 << 32, 1<<32 + 1, math.MaxInt}
	texts := []string{"", "A", "B", "C", "D", "x", "y", "z", "w", "q", "I", "V", "N", "()V", "9", "a b", "\xff", longName, longName + "n"}
	for part := 0; ; part++ {
		x := rich()
		ints, strs := partsOf(&x)
		if part >= len(ints) && part >= len(strs) {
			return
		}
		hold := func() {
			if e, want := pack.Right(x), right(x); e != want {
				t.Errorf("%#v: error %d, want %d", x, e, want)
			}
		}
		if part < len(ints) {
			kept := *ints[part]
			for _, *ints[part] = range numbers {
				hold()
			}
			*ints[part] = kept
		}
		if part < len(strs) {
			for _, *strs[part] = range texts {
				hold()
			}
		}
	}
}

// partsOf answers where the numbers and the texts of a bundle's turns, and its classes' names, stand.
func partsOf(x *api.Bundle) (ints []*int, strs []*string) {
	for i := range x.Classes {
		strs = append(strs, &x.Classes[i].Name)
	}
	for i := range x.Turns {
		t := &x.Turns[i]
		strs = append(strs, &t.Class)
		for k := range t.Consts {
			c := &t.Consts[k]
			ints, strs = append(ints, &c.Kind), append(strs, &c.S, &c.T, &c.U)
		}
		for k := range t.Moves {
			m := &t.Moves[k]
			ints, strs = append(ints, &m.Kind), append(strs, &m.Field, &m.From)
			for n := range m.Code {
				ints = append(ints, &m.Code[n].Op, &m.Code[n].A)
			}
		}
	}
	return ints, strs
}

// P6.1, and the chapter's example.
func TestPutHasTheBytesThatTheChapterTells(t *testing.T) {
	b, e := pack.Put(api.Bundle{})
	if want := "\x48\x42\x50\x31\x00\x00"; string(b) != want || e != api.OK {
		t.Errorf("Put of nothing = % x, %d", b, e)
	}
	x := api.Bundle{
		Classes: []api.Class{{Name: "A", Super: "Object"}},
		Turns: []api.Turn{{Class: "A", Consts: []api.Const{{Kind: api.CInt, N: 5}},
			Moves: []api.Move{{Field: "x"}, {Field: "y", Kind: api.Copy, From: "z"}, {Field: "w", Kind: api.Made, Code: []api.Ins{{Op: api.Int}, {Op: api.Neg}}}}}},
	}
	want := "HBP1\x02" + "\x20HBK1\x02A\x0cObject\x00\x00\x00" + "\x02\x02A" + "\x02\x02\x0a" + "\x06" + "\x02x\x00" + "\x02y\x02\x02z" + "\x02w\x04\x04\x02\x00\x1e"
	if b, e := pack.Put(x); string(b) != want || e != api.OK {
		t.Errorf("Put = % x, %d, want % x", b, e, want)
	}
}

// P6.1.
func TestPutOfBundlesThatCanBe(t *testing.T) {
	for i, x := range rights() {
		kept := whole(x)
		b, e := pack.Put(x)
		if e != api.OK || !bytes.Equal(b, bytesOf(x)) {
			t.Errorf("bundle %d: error %d, or other bytes", i, e)
		}
		if !alike(x, kept) {
			t.Errorf("bundle %d was changed", i)
		}
	}
}

// P6.1: with an error there are no bytes.
func TestPutTellsRightsError(t *testing.T) {
	for _, f := range faults() {
		x := rich()
		f.make(&x)
		if b, e := pack.Put(x); b != nil || e != f.want {
			t.Errorf("%s: Put = % x, %d", f.slot, b, e)
		}
	}
}

// great answers a class whose bytes are about so many, below 66000.
func great(name string, size int) api.Class {
	c := class(name)
	for i := 0; i*265 < size; i++ {
		c.Consts = append(c.Consts, api.Const{Kind: api.CMeth, S: longName, T: strings.Repeat("m", 21) + strconv.Itoa(i+100), U: longSig})
	}
	return c
}

// ofSize answers a bundle of so many bytes, from 65210 to 65800.
func ofSize(size int) api.Bundle {
	x := api.Bundle{Classes: []api.Class{great("A", 30000), great("B", 30000)}, Turns: []api.Turn{{Class: "B"}}}
	x.Turns[0].Consts = great("C", 4700).Consts
	for left := size - len(bytesOf(x)); left > 0; left = size - len(bytesOf(x)) {
		n := min(left, 60)
		if left-n == 1 {
			n-- // No constant has but one byte.
		}
		l := &x.Turns[0].Consts
		if len(*l) == 63 {
			panic("the number of constants would have one more byte")
		}
		*l = append(*l, api.Const{Kind: api.CStr, S: strings.Repeat(strconv.Itoa(len(*l)), 30)[:n-2]})
	}
	return x
}

// P6.1: at the greatest size, and beyond it.
func TestPutAndGetOfSizes(t *testing.T) {
	for _, size := range []int{65530, 65534, 65535, 65536, 65537, 65538, 65600} {
		x := ofSize(size)
		if e := pack.Right(x); e != api.OK || len(bytesOf(x)) != size {
			t.Fatalf("%d bytes: Right tells %d of %d", size, e, len(bytesOf(x)))
		}
		b, e := pack.Put(x)
		if size <= 65536 && (e != api.OK || len(b) != size) || size > 65536 && (e != api.ErrSize || b != nil) {
			t.Errorf("%d bytes: Put = %d bytes, error %d", size, len(b), e)
		}
		y, e := pack.Get(bytesOf(x))
		if size <= 65536 && (e != api.OK || !alike(x, y)) || size > 65536 && (e != api.ErrSize || !alike(y, api.Bundle{})) {
			t.Errorf("%d bytes: Get: error %d", size, e)
		}
	}
}

// P6.1: a class that is too great alone, and many that are together.
func TestPutOfGreatClasses(t *testing.T) {
	c := great("A", 67000)
	if b, e := klass.Put(c); b != nil || e != api.ErrSize || klass.Right(c) != api.OK {
		t.Fatalf("the class is not too great: %d bytes, error %d", len(b), e)
	}
	many := api.Bundle{}
	for i := range 32 {
		many.Classes = append(many.Classes, great("A"+strconv.Itoa(i), 40000))
	}
	for i, x := range []api.Bundle{{Classes: []api.Class{c}}, {Classes: []api.Class{class("B"), c}}, many} {
		if b, e := pack.Put(x); b != nil || e != api.ErrSize || pack.Right(x) != api.OK {
			t.Errorf("bundle %d: Put = %d bytes, error %d", i, len(b), e)
		}
	}
	// Right's error of a later part is ahead of a class's size.
	if b, e := pack.Put(api.Bundle{Classes: []api.Class{c}, Turns: turns(1)}); b != nil || e != api.ErrNone {
		t.Errorf("with a turn of no class: Put = %d bytes, error %d", len(b), e)
	}
}

// P6.1: what Get reads ahead of the parts.
func TestGetOfHeads(t *testing.T) {
	long := make([]byte, 65537)
	copy(long, "HBP1")
	for _, x := range []struct {
		b    []byte
		want api.Errno
	}{
		{nil, api.ErrForm}, {[]byte{}, api.ErrForm}, {[]byte("H"), api.ErrForm}, {[]byte("HBP"), api.ErrForm}, {[]byte("HBP1"), api.ErrShort}, {[]byte("HBP1\x00"), api.ErrShort}, {[]byte("HBP1\x00\x00"), api.OK},
		{[]byte("HBP2\x00\x00"), api.ErrForm}, {[]byte("HBK1\x00\x00"), api.ErrForm}, {[]byte("hbp1\x00\x00"), api.ErrForm}, {[]byte("\x00HBP1\x00\x00"), api.ErrForm},
		{make([]byte, 65536), api.ErrForm}, {make([]byte, 65537), api.ErrSize}, {long, api.ErrSize}, {long[:65536], api.ErrForm}, {make([]byte, 1<<20), api.ErrSize},
	} {
		if y, e := pack.Get(x.b); e != x.want || !alike(y, api.Bundle{}) {
			t.Errorf("Get of %d bytes, % x ..: error %d, want %d", len(x.b), x.b[:min(len(x.b), 8)], e, x.want)
		}
	}
}

// P6.1: the error of each part, told by what no later part could tell.
func TestGetOfPartsThatCanNotBe(t *testing.T) {
	head := []byte("HBP1")
	a := bytesOfClass(class("A"))
	wrong := slices.Clone(a)
	wrong[len(wrong)-2] = 'V' // The field's type, ahead of no methods.
	turn := join(head, number(1), a, number(1))
	move := join(turn, text("A"), number(0), number(1))
	long := text(strings.Repeat("n", 257))
	for _, x := range []struct {
		name string
		b    []byte
		want api.Errno
	}{
		{"classes below 0", join(head, number(-1)), api.ErrSize},
		{"classes above 32", join(head, number(33)), api.ErrSize},
		{"32 classes, none there", join(head, number(32)), api.ErrShort},
		{"classes of two bytes too many", join(head, []byte{0x80, 0}), api.ErrForm},
		{"a class below 0", join(head, number(1), number(-1)), api.ErrSize},
		{"a class above 65536", join(head, number(1), number(65537)), api.ErrSize},
		{"a class of 65536, not there", join(head, number(1), number(65536)), api.ErrShort},
		{"a class of no bytes", join(head, number(1), text("")), api.ErrForm},
		{"a class shorter than its bytes", join(head, number(1), text("HBK1\x02A")), api.ErrShort},
		{"a class with one byte more", join(head, number(1), text(string(a[1:])+"\x00")), api.ErrForm},
		{"a class that can not be", join(head, number(2), wrong), api.ErrDesc},
		{"a class that can not be, and one too many", join(head, number(2), wrong, number(65537)), api.ErrDesc},
		{"no turns there", join(head, number(1), a), api.ErrShort},
		{"turns below 0", join(head, number(1), a, number(-1)), api.ErrSize},
		{"turns above 32", join(head, number(1), a, number(33)), api.ErrSize},
		{"32 turns, none there", join(head, number(1), a, number(32)), api.ErrShort},
		{"a turn's long class", join(turn, long), api.ErrSize},
		{"a turn's long class, not all there", join(turn, long[:2], []byte(strings.Repeat("n", 255))), api.ErrSize},
		{"a turn's class of 256 bytes", join(turn, text(strings.Repeat("n", 256))), api.ErrShort},
		{"constants below 0", join(turn, text("A"), number(-1)), api.ErrSize},
		{"constants above 256", join(turn, text("A"), number(257)), api.ErrSize},
		{"a constant that is none", join(turn, text("A"), number(1), number(0)), api.ErrConst},
		{"constants twice", join(turn, text("A"), bytesOfConsts(append(ints(1), ints(1)...))), api.ErrTwice},
		{"moves below 0", join(turn, text("A"), number(0), number(-1)), api.ErrSize},
		{"moves above 16", join(turn, text("A"), number(0), number(17)), api.ErrSize},
		{"16 moves, none there", join(turn, text("A"), number(0), number(16)), api.ErrShort},
		{"a move's long field", join(move, long), api.ErrSize},
		{"a move's field of 256", join(move, text(strings.Repeat("n", 256))), api.ErrShort},
		{"a kind below 0", join(move, text("x"), number(-1)), api.ErrArg},
		{"a kind above 2", join(move, text("x"), number(3)), api.ErrArg},
		{"a kind far above", join(move, text("x"), number(1<<32)), api.ErrArg},
		{"a kind of two bytes too many", join(move, text("x"), []byte{0x80, 0}), api.ErrForm},
		{"a copy of nothing there", join(move, text("x"), number(1)), api.ErrShort},
		{"a copy's long field", join(move, text("x"), number(1), long), api.ErrSize},
		{"a copy's field that is none", join(move, text("x"), number(1), text("9")), api.ErrName},
		{"code below 0", join(move, text("x"), number(2), number(-1)), api.ErrSize},
		{"code above 512", join(move, text("x"), number(2), number(513)), api.ErrSize},
		{"code of none", join(move, text("x"), number(2), number(0)), api.ErrSize},
		{"code that is none", join(move, text("x"), number(2), number(1), number(46)), api.ErrCode},
		{"code that can not be there", join(move, text("x"), number(2), number(1), number(api.Read)), api.ErrCode},
		{"a zero with a From", join(move, text("x"), number(0), text("y")), api.ErrForm},
		{"a zero", join(move, text("x"), number(0)), api.OK},
	} {
		y, e := pack.Get(x.b)
		if e != x.want || e != api.OK && !alike(y, api.Bundle{}) {
			t.Errorf("%s: error %d, want %d", x.name, e, x.want)
		}
	}
}

// P6.1: bytes that are left, ahead of Right's error.
func TestGetOfBytesThatAreLeft(t *testing.T) {
	twice := api.Bundle{Classes: []api.Class{class("A"), class("A")}}
	if _, e := pack.Get(bytesOf(twice)); e != api.ErrTwice {
		t.Errorf("a class twice: error %d", e)
	}
	for i, x := range append(rights(), twice, api.Bundle{Turns: turns(1)}) {
		for _, more := range []string{"\x00", "\x80", "HBP1", strings.Repeat("\x00", 300)} {
			if _, e := pack.Get(append(bytesOf(x), more...)); e != api.ErrForm {
				t.Errorf("bundle %d with %d more: error %d", i, len(more), e)
			}
		}
	}
}

func holdGet(t *testing.T, b []byte) {
	t.Helper()
	x, e := pack.Get(b)
	want, wantE := got(b)
	if e != wantE || !alike(x, want) {
		t.Fatalf("Get(% x) = %#v, %d, want %#v, %d", b, x, e, want, wantE)
	}
	if e == api.OK {
		if again, e := pack.Put(x); e != api.OK || !bytes.Equal(again, b) {
			t.Fatalf("Put of Get(% x) = % x, %d", b, again, e)
		}
	}
}

// P6.1 and P6.3: at each place of the bytes each other byte, one less and one more.
func TestGetOfBytesThatAreOthers(t *testing.T) {
	for _, x := range []api.Bundle{{}, rich()} {
		b := bytesOf(x)
		for at := range b {
			holdGet(t, b[:at])
			holdGet(t, slices.Delete(bytes.Clone(b), at, at+1))
			for c := range 256 {
				other := bytes.Clone(b)
				other[at] = byte(c)
				holdGet(t, other)
			}
			for _, c := range []byte{0, 1, 2, 0x7f, 0x80, 0xff} {
				holdGet(t, slices.Insert(bytes.Clone(b), at, c))
			}
		}
	}
}

// P6.3.
func TestBundlesAreGotAsTheyWerePut(t *testing.T) {
	for i, x := range rights() {
		b, e := pack.Put(x)
		if e != api.OK {
			t.Fatalf("bundle %d: Put tells %d", i, e)
		}
		kept := bytes.Clone(b)
		y, e := pack.Get(b)
		if e != api.OK || !alike(x, y) {
			t.Errorf("bundle %d: Get tells %d, or another bundle", i, e)
		}
		if !bytes.Equal(b, kept) {
			t.Errorf("bundle %d: Get changed the bytes", i)
		}
		if again, e := pack.Put(y); e != api.OK || !bytes.Equal(b, again) {
			t.Errorf("bundle %d: Put of Get tells %d, or other bytes", i, e)
		}
		clear(b)
		if !alike(x, y) {
			t.Errorf("bundle %d hangs on its bytes", i)
		}
	}
}

// P6.2.
func TestClassAndTurnAnswerTheFirstPlace(t *testing.T) {
	x := rich()
	for i, n := range []string{"A", "B", "C"} {
		if at := pack.Class(x, n); at != i {
			t.Errorf("Class %s at %d", n, at)
		}
	}
	for n, want := range map[string]int{"B": 0, "A": 1, "C": -1} {
		if at := pack.Turn(x, n); at != want {
			t.Errorf("Turn %s at %d, want %d", n, at, want)
		}
	}
	for _, n := range []string{"", "a", "AA", "Object", "x"} {
		if c, u := pack.Class(x, n), pack.Turn(x, n); c != -1 || u != -1 {
			t.Errorf("%q stands at %d, %d", n, c, u)
		}
	}
	wrong := api.Bundle{Classes: []api.Class{{Name: "a"}, {}, {Name: "b"}, {Name: "b"}, {}}, Turns: []api.Turn{{Class: "b"}, {Class: "b"}, {}, {Class: "9 9"}, {}}}
	if at := []int{pack.Class(wrong, ""), pack.Class(wrong, "b"), pack.Turn(wrong, ""), pack.Turn(wrong, "b"), pack.Turn(wrong, "9 9")}; !slices.Equal(at, []int{1, 2, 2, 0, 3}) {
		t.Errorf("they stand at %v", at)
	}
	if c, u := pack.Class(api.Bundle{}, ""), pack.Turn(api.Bundle{}, ""); c != -1 || u != -1 {
		t.Errorf("of nothing: %d, %d", c, u)
	}
}

// changes are each another bundle than rich, in one thing.
func changes() []func(x *api.Bundle) {
	return []func(x *api.Bundle){
		func(x *api.Bundle) { x.Classes[2].Name = "D" },
		func(x *api.Bundle) { x.Classes[1].Methods[0].Code[0].A = 1 },
		func(x *api.Bundle) { x.Classes[1].Methods[0].Hand = nil },
		func(x *api.Bundle) { x.Classes[0].Fields[0].Desc = "B" },
		func(x *api.Bundle) { x.Classes = x.Classes[:2] },
		func(x *api.Bundle) { x.Classes = append(x.Classes, api.Class{}) },
		func(x *api.Bundle) { x.Classes = nil },
		func(x *api.Bundle) { x.Classes[0], x.Classes[1] = x.Classes[1], x.Classes[0] },
		func(x *api.Bundle) { x.Turns[0].Class = "C" },
		func(x *api.Bundle) { x.Turns[0].Consts[1].N++ },
		func(x *api.Bundle) { x.Turns[0].Consts[0].Kind = api.CMeth },
		func(x *api.Bundle) { x.Turns[0].Consts[0].S = "A" },
		func(x *api.Bundle) { x.Turns[0].Consts[0].T = "x" },
		func(x *api.Bundle) { x.Turns[0].Consts[0].U = "B" },
		func(x *api.Bundle) { x.Turns[0].Consts = x.Turns[0].Consts[:2] },
		func(x *api.Bundle) { x.Turns[0].Consts = nil },
		func(x *api.Bundle) { x.Turns[0].Moves[2].Field = "v" },
		func(x *api.Bundle) { x.Turns[0].Moves[2].Kind = api.Copy },
		func(x *api.Bundle) { x.Turns[0].Moves[1].From = "x" },
		func(x *api.Bundle) { x.Turns[0].Moves[0].Code[2].Op = api.Sub },
		func(x *api.Bundle) { x.Turns[0].Moves[0].Code[0].A = 1 },
		func(x *api.Bundle) { x.Turns[0].Moves[0].Code = x.Turns[0].Moves[0].Code[:2] },
		func(x *api.Bundle) { x.Turns[0].Moves[0].Code = nil },
		func(x *api.Bundle) { x.Turns[0].Moves[2].Code = []api.Ins{{}} },
		func(x *api.Bundle) { x.Turns[0].Moves = x.Turns[0].Moves[:2] },
		func(x *api.Bundle) { x.Turns[0].Moves = append(x.Turns[0].Moves, api.Move{}) },
		func(x *api.Bundle) { m := x.Turns[0].Moves; m[0], m[1] = m[1], m[0] },
		func(x *api.Bundle) { x.Turns = x.Turns[:1] },
		func(x *api.Bundle) { x.Turns = append(x.Turns, api.Turn{}) },
		func(x *api.Bundle) { x.Turns = nil },
		func(x *api.Bundle) { x.Turns[0], x.Turns[1] = x.Turns[1], x.Turns[0] },
	}
}

// P6.2.
func TestSameSeesEachChange(t *testing.T) {
	for i, change := range changes() {
		x := rich()
		change(&x)
		if pack.Same(rich(), x) || pack.Same(x, rich()) {
			t.Errorf("change %d is not seen", i)
		}
		if !pack.Same(x, whole(x)) {
			t.Errorf("change %d is not the same as itself", i)
		}
	}
	for i, x := range rights() {
		for k, y := range rights() {
			if pack.Same(x, y) != (i == k) {
				t.Errorf("bundles %d and %d", i, k)
			}
		}
	}
}

// P6.2.
func TestSameOfListsOfNone(t *testing.T) {
	a := api.Bundle{}
	b := api.Bundle{Classes: []api.Class{}, Turns: []api.Turn{}}
	if !pack.Same(a, b) || !pack.Same(b, a) || !pack.Same(a, a) {
		t.Error("lists of none that are nil are not the same as those that are not")
	}
	a = api.Bundle{Classes: []api.Class{{}}, Turns: []api.Turn{{}, {Moves: []api.Move{{}}}}}
	b = api.Bundle{Classes: []api.Class{{Consts: []api.Const{}, Methods: []api.Method{}}},
		Turns: []api.Turn{{Consts: []api.Const{}, Moves: []api.Move{}}, {Moves: []api.Move{{Code: []api.Ins{}}}}}}
	if !pack.Same(a, b) || !pack.Same(b, a) {
		t.Error("lists of none within are not the same")
	}
}

// spoil writes into all lists of a bundle, and behind their ends.
func spoil(x api.Bundle) {
	for i := range x.Classes {
		c := &x.Classes[i]
		for k := range c.Fields {
			c.Fields[k] = api.Field{Name: "spoilt"}
		}
		for k := range c.Methods {
			clear(c.Methods[k].Code)
			clear(c.Methods[k].Hand)
		}
		clear(c.Methods)
		clear(c.Consts)
		*c = api.Class{Name: "spoilt"}
	}
	for i := range x.Turns {
		t := &x.Turns[i]
		for k := range t.Moves {
			_ = append(t.Moves[k].Code, api.Ins{Op: 98})
			clear(t.Moves[k].Code)
			t.Moves[k] = api.Move{Field: "spoilt"}
		}
		_ = append(t.Moves, api.Move{Field: "behind"})
		_ = append(t.Consts, api.Const{Kind: 98})
		clear(t.Consts)
		*t = api.Turn{Class: "spoilt"}
	}
	_ = append(x.Classes, api.Class{Name: "behind"})
	_ = append(x.Turns, api.Turn{Class: "behind"})
}

// Rules 4 and 5 of the document.
func TestAnswersShareNoMemory(t *testing.T) {
	for i, x := range rights() {
		kept := whole(x)
		want := bytesOf(kept)
		b, _ := pack.Put(x)
		one, _ := pack.Get(b)
		two, _ := pack.Get(b)
		spoil(one)
		if !alike(two, kept) || !bytes.Equal(b, want) {
			t.Errorf("bundle %d: Get shares memory", i)
		}
		again, _ := pack.Put(x)
		clear(b)
		_ = append(b, 1, 2, 3)
		spoil(x)
		if !bytes.Equal(again, want) || !alike(two, kept) {
			t.Errorf("bundle %d: Put shares memory, or hangs on what was handed in", i)
		}
	}
}

// P6.1: numbers of more than 32 bits are not cut.
func TestGetOfNumbersThatAreFarTooGreat(t *testing.T) {
	for _, n := range []int64{1 << 32, 1<<32 + 1, math.MaxInt64, math.MinInt64} {
		if _, e := pack.Get(bin.Put([]byte("HBP1"), n)); e != api.ErrSize {
			t.Errorf("%d classes: error %d", n, e)
		}
	}
}

// P6.1 and P6.3: no bytes make a call panic, or hold otherwise than the words say.
func FuzzGet(f *testing.F) {
	for _, x := range []api.Bundle{{}, rich()} {
		f.Add(bytesOf(x))
	}
	f.Fuzz(func(t *testing.T, b []byte) {
		holdGet(t, b)
	})
}
