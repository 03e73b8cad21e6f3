package ins_test

import (
	"bytes"
	"math"
	"slices"
	"strings"
	"testing"

	"hornbook/api"
	"hornbook/bin"
	"hornbook/ins"
)

// The names of the instructions, by their numbers, as the document's and the chapter's lists have them.
const names = "nop int str true false null load store pop dup add sub mul div rem neg not lt le eqi eqb eqr jump jumpt jumpf " +
	"new getf putf arr aload astore alen call ret retv throw enter exit cast is print read join slen spawn old"

// kinds are those of the instructions that are not Plain.
func kinds() map[string]int {
	return map[string]int{
		"int": 1, "str": 2, "new": 3, "arr": 3, "cast": 3, "is": 3, "getf": 4, "putf": 4, "old": 4, "call": 5,
		"load": 6, "store": 6, "jump": 7, "jumpt": 7, "jumpf": 7,
	}
}

// kindOf works out anew what Kind answers.
func kindOf(op int) int {
	l := strings.Fields(names)
	if op < 0 || op >= len(l) {
		return -1
	}
	return kinds()[l[op]]
}

// noOps are the numbers of no instructions.
func noOps() []int {
	return []int{-1, -2, -46, 46, 47, 92, 255, 256, 1 << 31, 1 << 32, 1<<32 + 1, math.MaxInt, math.MinInt, math.MinInt + 1}
}

// all has each instruction once, with an A that it can have.
func all() []api.Ins {
	var code []api.Ins
	for op := range 46 {
		code = append(code, api.Ins{Op: op})
	}
	return code
}

// nops are so many.
func nops(n int) []api.Ins {
	return make([]api.Ins, n)
}

// P4.1, and the numbers of api.
func TestNamesAndKindsOfEachInstruction(t *testing.T) {
	l := strings.Fields(names)
	if len(l) != api.Ops {
		t.Fatalf("there are %d names", len(l))
	}
	for op, name := range l {
		if s := ins.Name(op); s != name {
			t.Errorf("Name(%d) = %q, want %q", op, s, name)
		}
		if k := ins.Kind(op); k != kinds()[name] {
			t.Errorf("Kind(%d) = %d, want %d: %s", op, k, kinds()[name], name)
		}
		if n := ins.Find(name); n != op {
			t.Errorf("Find(%q) = %d, want %d", name, n, op)
		}
	}
	for op, name := range map[int]string{api.Nop: "nop", api.EqR: "eqr", api.JumpF: "jumpf", api.AStore: "astore", api.Call: "call", api.RetV: "retv", api.SLen: "slen", api.Old: "old"} {
		if ins.Name(op) != name {
			t.Errorf("Name(%d) = %q, want %q", op, ins.Name(op), name)
		}
	}
}

// P4.1.
func TestNamesAndKindsOfNoInstruction(t *testing.T) {
	for _, op := range noOps() {
		if s, k := ins.Name(op), ins.Kind(op); s != "" || k != -1 {
			t.Errorf("Name(%d), Kind(%d) = %q, %d", op, op, s, k)
		}
	}
	for _, name := range []string{"", "x", "Nop", "NOP", "no", "nopp", "nop ", " nop", "jumpF", "JumpF", "ops", "0", "nop int", "\x00", "eq", "EqI", "string", strings.Repeat("nop", 1<<18)} {
		if op := ins.Find(name); op != -1 {
			t.Errorf("Find(%.20q) = %d", name, op)
		}
	}
}

// The chapter's constants.
func TestKindsAreNumbersInTheirOrder(t *testing.T) {
	for n, kind := range []int{ins.Plain, ins.OfInt, ins.OfStr, ins.OfType, ins.OfField, ins.OfMeth, ins.OfLocal, ins.OfPlace} {
		if kind != n {
			t.Errorf("the kind %d is %d", n, kind)
		}
	}
}

// consts has one of each kind, and one of none, at the place of its Kind.
func consts() []api.Const {
	return []api.Const{{}, {Kind: 1, N: 5}, {Kind: 2, S: "hi"}, {Kind: 3, S: "I"}, {Kind: 4, S: "A", T: "x", U: "I"}, {Kind: 5, S: "A", T: "m", U: "()V"}}
}

func holdCheck(t *testing.T, code []api.Ins, l []api.Const, locals, want int, wantE api.Errno) {
	t.Helper()
	if at, e := ins.Check(code, l, locals); at != want || e != wantE {
		t.Errorf("Check(%d instructions, %d constants, %d) = %d, %d, want %d, %d", len(code), len(l), locals, at, e, want, wantE)
	}
}

// holdOne asks whether an instruction can be, at some places of a code of so many.
func holdOne(t *testing.T, i api.Ins, m int, l []api.Const, locals int, can bool) {
	t.Helper()
	for _, at := range []int{0, m / 2, m - 1} {
		code := nops(m)
		code[at] = i
		want, wantE := 0, api.OK
		if !can {
			want, wantE = at, api.ErrCode
		}
		if at, e := ins.Check(code, l, locals); at != want || e != wantE {
			t.Errorf("Check of %v in %d, with %d constants, %d locals = %d, %d, want %d, %d", i, m, len(l), locals, at, e, want, wantE)
		}
	}
}

// P4.1: each instruction with each A, among what there is of it, and what there is not.
func TestCheckOfEachInstruction(t *testing.T) {
	for op := range 46 {
		kind := kindOf(op)
		for _, a := range []int{math.MinInt, -65536, -6, -2, -1, 0, 1, 2, 3, 4, 5, 6, 7, 8, 9, 255, 256, 511, 512, 65535, 65536, 1 << 32, 1<<32 + 1, math.MaxInt} {
			for _, m := range []int{1, 2, 9} {
				for _, locals := range []int{0, 1, 5, 24} {
					can := false
					switch {
					case kind == 0:
						can = a == 0
					case kind <= 5:
						can = a == kind
					case kind == 6:
						can = a >= 0 && a < locals
					case kind == 7:
						can = a >= 0 && a < m
					}
					holdOne(t, api.Ins{Op: op, A: a}, m, consts(), locals, can)
				}
			}
		}
	}
}

// P4.1: the constant's kind is asked, not whether it can be, at each place of many.
func TestCheckOfConstants(t *testing.T) {
	for op := range 46 {
		kind := kindOf(op)
		if kind < 1 || kind > 5 {
			continue
		}
		holdOne(t, api.Ins{Op: op}, 3, nil, 24, false)
		for other := -1; other < 10; other++ {
			holdOne(t, api.Ins{Op: op}, 3, []api.Const{{Kind: other}}, 24, kind == other)
			l := slices.Repeat([]api.Const{{Kind: kind}}, 256)
			l[200].Kind = other
			holdOne(t, api.Ins{Op: op, A: 200}, 3, l, 24, kind == other)
			holdOne(t, api.Ins{Op: op, A: 199}, 3, l, 24, true)
			holdOne(t, api.Ins{Op: op, A: 255}, 3, l, 24, true)
			holdOne(t, api.Ins{Op: op, A: 256}, 3, l, 24, false)
		}
	}
}

// P4.1: how many locals there are, none and fewer.
func TestCheckOfLocals(t *testing.T) {
	for _, op := range []int{api.Load, api.Store} {
		for _, locals := range []int{math.MinInt, -1, 0, 1, 2, 24, 25, 1000, math.MaxInt} {
			for _, a := range []int{math.MinInt, -1, 0, 1, 23, 24, 999, math.MaxInt} {
				holdOne(t, api.Ins{Op: op, A: a}, 3, nil, locals, a >= 0 && a < locals)
			}
		}
	}
	holdCheck(t, nops(1), nil, math.MinInt, 0, api.OK)
}

// P4.1.
func TestCheckOfNoInstruction(t *testing.T) {
	for _, op := range noOps() {
		holdOne(t, api.Ins{Op: op}, 7, consts(), 24, false)
		holdOne(t, api.Ins{Op: op, A: 1}, 7, consts(), 24, false)
		holdOne(t, api.Ins{Op: op, A: 1}, 7, slices.Repeat([]api.Const{{Kind: -1}}, 7), 24, false)
	}
}

// P4.1: how many instructions there may be; their size comes ahead of what they are.
func TestCheckOfSizes(t *testing.T) {
	holdCheck(t, nil, nil, 0, 0, api.ErrSize)
	holdCheck(t, []api.Ins{}, consts(), 24, 0, api.ErrSize)
	for _, n := range []int{1, 2, 511, 512} {
		holdCheck(t, nops(n), nil, 0, 0, api.OK)
		code := nops(n)
		code[n-1] = api.Ins{Op: api.Jump, A: n - 1}
		holdCheck(t, code, nil, 0, 0, api.OK)
		code[n-1].A = n
		holdCheck(t, code, nil, 0, n-1, api.ErrCode)
	}
	for _, n := range []int{513, 514, 2000} {
		holdCheck(t, nops(n), nil, 0, 0, api.ErrSize)
		holdCheck(t, slices.Repeat([]api.Ins{{Op: -1, A: -1}}, n), nil, 0, 0, api.ErrSize)
		code := nops(n)
		code[5].A = 1
		holdCheck(t, code, nil, 0, 0, api.ErrSize)
	}
}

// P4.1: the first place of several.
func TestCheckTellsTheFirstPlace(t *testing.T) {
	code := []api.Ins{{Op: api.Int, A: 1}, {Op: api.Store, A: 1}, {Op: api.New, A: 3}, {Op: api.Call, A: 5}, {Op: api.JumpT, A: 5}, {Op: api.RetV}}
	holdCheck(t, code, consts(), 2, 0, api.OK)
	holdCheck(t, code, consts(), 1, 1, api.ErrCode)
	holdCheck(t, code, consts()[:5], 2, 3, api.ErrCode)
	holdCheck(t, code, consts()[:3], 2, 2, api.ErrCode)
	holdCheck(t, code, nil, 2, 0, api.ErrCode)
	holdCheck(t, code[:5], consts(), 2, 4, api.ErrCode)
	holdCheck(t, code[:5], consts()[:5], 2, 3, api.ErrCode)
	kept := slices.Clone(code)
	ins.Check(code, consts()[:2], 0)
	if !slices.Equal(code, kept) {
		t.Error("Check changed what was handed in")
	}
}

func holdNext(t *testing.T, code []api.Ins, at int, want ...int) {
	t.Helper()
	if l := ins.Next(code, at); !slices.Equal(l, want) {
		t.Errorf("Next of %d, at %d: %v, want %v", len(code), at, l, want)
	}
}

// P4.2: each instruction, at each place, with each A that it may have.
func TestNextOfEachInstruction(t *testing.T) {
	const m = 6
	for op, name := range strings.Fields(names) {
		for at := range m {
			for a := range m {
				code := nops(m)
				code[at] = api.Ins{Op: op, A: a}
				var want []int
				switch {
				case name == "jump":
					want = []int{a}
				case name == "jumpt" || name == "jumpf":
					want = []int{min(a, at+1), max(a, at+1)}
					if a == at+1 {
						want = want[:1]
					}
				case name == "ret" || name == "retv" || name == "throw":
				default:
					want = []int{at + 1}
				}
				if l := ins.Next(code, at); !slices.Equal(l, want) {
					t.Errorf("Next of %s %d at %d of %d: %v, want %v", name, a, at, m, l, want)
				}
			}
		}
	}
}

// P4.2: places and instructions that there are not.
func TestNextOfWhatThereIsNot(t *testing.T) {
	for _, code := range [][]api.Ins{nil, nops(1), all(), {{Op: api.Jump}}, {{Op: api.JumpT}, {Op: api.JumpF}}} {
		for _, at := range []int{-1, -2, math.MinInt, len(code), len(code) + 1, math.MaxInt} {
			holdNext(t, code, at)
			if ins.Back(code, at) {
				t.Errorf("Back of %d, at %d, is true", len(code), at)
			}
		}
	}
	for _, op := range noOps() {
		for at := range 3 {
			code := nops(3)
			code[at] = api.Ins{Op: op}
			holdNext(t, code, at)
			if ins.Back(code, at) {
				t.Errorf("Back at the instruction %d is true", op)
			}
		}
	}
}

// P4.2: the place behind the last one; codes of one instruction.
func TestNextOfTheLastPlace(t *testing.T) {
	holdNext(t, nops(1), 0, 1)
	holdNext(t, nops(512), 511, 512)
	holdNext(t, nops(600), 599, 600)
	holdNext(t, []api.Ins{{Op: api.Jump}}, 0, 0)
	holdNext(t, []api.Ins{{Op: api.JumpT}}, 0, 0, 1)
	holdNext(t, []api.Ins{{}, {Op: api.JumpF, A: 0}}, 1, 0, 2)
	holdNext(t, []api.Ins{{}, {Op: api.JumpF, A: 1}}, 1, 1, 2)
	holdNext(t, []api.Ins{{Op: api.Ret}}, 0)
}

// P4.2: memory of its own.
func TestPlacesShareNoMemory(t *testing.T) {
	code := []api.Ins{{Op: api.Nop}, {Op: api.JumpT, A: 0}, {Op: api.Jump, A: 1}, {Op: api.Int, A: 4}, {Op: api.Str, A: 2}}
	kept := slices.Clone(code)
	for name, ask := range map[string]func() []int{
		"Next of nop":   func() []int { return ins.Next(code, 0) },
		"Next of jumpt": func() []int { return ins.Next(code, 1) },
		"Next of jump":  func() []int { return ins.Next(code, 2) },
		"Uses":          func() []int { return ins.Uses(code) },
	} {
		first, second := ask(), ask()
		want := slices.Clone(second)
		for i := range first {
			first[i] = 99
		}
		if !slices.Equal(second, want) || !slices.Equal(ask(), want) {
			t.Error(name, "shares memory with another answer")
		}
	}
	if !slices.Equal(code, kept) {
		t.Error("what was handed in was changed")
	}
}

// P4.2.
func TestBack(t *testing.T) {
	const m = 6
	for op, name := range strings.Fields(names) {
		for at := range m {
			for a := range m {
				code := nops(m)
				code[at] = api.Ins{Op: op, A: a}
				want := strings.HasPrefix(name, "jump") && a <= at
				if ins.Back(code, at) != want {
					t.Errorf("Back of %s %d at %d is not %v", name, a, at, want)
				}
			}
		}
	}
}

func holdUses(t *testing.T, code []api.Ins, want ...int) {
	t.Helper()
	if l := ins.Uses(code); !slices.Equal(l, want) {
		t.Errorf("Uses of %v = %v, want %v", code, l, want)
	}
}

// P4.2.
func TestUses(t *testing.T) {
	holdUses(t, nil)
	holdUses(t, nops(9))
	for op := range 46 {
		if kind := kindOf(op); kind >= 1 && kind <= 5 {
			for _, a := range []int{0, 1, 255, 256, 65536, math.MaxInt} {
				holdUses(t, []api.Ins{{}, {Op: op, A: a}, {}}, a)
			}
			holdUses(t, []api.Ins{{Op: op, A: 3}, {Op: op, A: 0}, {Op: op, A: 3}, {Op: op, A: 1}, {Op: op, A: 0}}, 0, 1, 3)
		} else {
			holdUses(t, []api.Ins{{Op: op, A: 3}})
			holdUses(t, []api.Ins{{Op: op, A: 0}, {Op: api.Int, A: 2}, {Op: op, A: 1}}, 2)
		}
	}
	for _, op := range noOps() {
		holdUses(t, []api.Ins{{Op: op, A: 3}})
	}
	holdUses(t, []api.Ins{{Op: api.Call, A: 9}, {Op: api.Int, A: 5}, {Op: api.Load, A: 7}, {Op: api.Str, A: 9}, {Op: api.Jump, A: 6}, {Op: api.Old, A: 0}, {Op: api.New, A: 200}, {Op: api.GetF, A: 5}}, 0, 5, 9, 200)
	var code []api.Ins
	var want []int
	for i := range 700 {
		code = append(code, api.Ins{Op: api.Int, A: 699 - i})
		want = append(want, i)
	}
	holdUses(t, append(code, code...), want...)
}

// bytesOf works out anew the bytes of code.
func bytesOf(code []api.Ins) []byte {
	b := bin.Put(nil, int64(len(code)))
	for _, i := range code {
		b = bin.Put(b, int64(i.Op))
		if kindOf(i.Op) != 0 {
			b = bin.Put(b, int64(i.A))
		}
	}
	return b
}

func holdPut(t *testing.T, want api.Errno, code ...api.Ins) {
	t.Helper()
	kept := slices.Clone(code)
	b, e := ins.Put([]byte("ab"), code...)
	if e != want || e != api.OK && len(b) != 0 || e == api.OK && string(b) != "ab"+string(bytesOf(code)) {
		t.Errorf("Put of %d: % x, %d, want error %d", len(code), b[:min(len(b), 40)], e, want)
	}
	if !slices.Equal(code, kept) {
		t.Fatal("Put changed what was handed in")
	}
}

// P4.3, and the chapter's example.
func TestPutHasTheBytesThatTheChapterTells(t *testing.T) {
	for _, x := range []struct {
		want string
		code []api.Ins
	}{
		{"\x00", nil},
		{"\x02\x00", []api.Ins{{Op: api.Nop}}},
		{"\x04\x02\x06\x1e", []api.Ins{{Op: api.Int, A: 3}, {Op: api.Neg}}},
		{"\x02\x02\x00", []api.Ins{{Op: api.Int}}},
		{"\x06\x0c\x02\x2c\x04\x44", []api.Ins{{Op: api.Load, A: 1}, {Op: api.Jump, A: 2}, {Op: api.RetV}}},
		{"\x02\x5a\xd8\x04", []api.Ins{{Op: api.Old, A: 300}}},
	} {
		if b, e := ins.Put(nil, x.code...); string(b) != x.want || e != api.OK {
			t.Errorf("Put(none, %v) = % x, %d, want % x", x.code, b, e, x.want)
		}
	}
}

// P4.3.
func TestPutOfWhatCanBe(t *testing.T) {
	holdPut(t, api.OK)
	holdPut(t, api.OK, all()...)
	for op := range 46 {
		holdPut(t, api.OK, api.Ins{Op: op})
		if kindOf(op) != 0 {
			for _, a := range []int{1, 63, 64, 511, 512, 65535, 65536, 1 << 40, math.MaxInt} {
				holdPut(t, api.OK, api.Ins{Op: op, A: a})
				holdPut(t, api.OK, api.Ins{}, api.Ins{Op: op, A: a}, api.Ins{Op: op, A: a})
			}
		}
	}
	for _, n := range []int{1, 63, 64, 511, 512} {
		holdPut(t, api.OK, nops(n)...)
		holdPut(t, api.OK, slices.Repeat([]api.Ins{{Op: api.Call, A: n}}, n)...)
	}
}

// P4.3: each error, at each place; their size comes first.
func TestPutOfWhatCanNotBe(t *testing.T) {
	var wrong []api.Ins
	for _, op := range noOps() {
		wrong = append(wrong, api.Ins{Op: op}, api.Ins{Op: op, A: 1})
	}
	for op := range 46 {
		wrong = append(wrong, api.Ins{Op: op, A: -1}, api.Ins{Op: op, A: -65536}, api.Ins{Op: op, A: math.MinInt})
		if kindOf(op) == 0 {
			wrong = append(wrong, api.Ins{Op: op, A: 1}, api.Ins{Op: op, A: 255}, api.Ins{Op: op, A: 1 << 32}, api.Ins{Op: op, A: math.MaxInt})
		}
	}
	for _, i := range wrong {
		holdPut(t, api.ErrCode, i)
		holdPut(t, api.ErrCode, api.Ins{}, i)
		holdPut(t, api.ErrCode, i, api.Ins{Op: api.Int, A: 5})
		holdPut(t, api.ErrCode, append(nops(511), i)...)
		holdPut(t, api.ErrSize, append(nops(512), i)...)
		holdPut(t, api.ErrSize, append([]api.Ins{i}, nops(512)...)...)
	}
	for _, n := range []int{513, 514, 2000} {
		holdPut(t, api.ErrSize, nops(n)...)
	}
}

// P4.3: new memory.
func TestBytesShareNoMemory(t *testing.T) {
	room := append(make([]byte, 0, 64), "ab........"...)
	b := room[:2]
	for name, put := range map[string]func() []byte{
		"Put":         func() []byte { out, _ := ins.Put(b, api.Ins{Op: api.Int, A: 3}, api.Ins{Op: api.Neg}); return out },
		"Put of none": func() []byte { out, _ := ins.Put(b); return out },
	} {
		first := put()
		kept := string(first)
		second := put()
		for i := range first {
			first[i] = '!'
		}
		_ = append(first, "!!!!"...)
		if string(second) != kept || string(put()) != kept {
			t.Error(name, "shares memory with another answer")
		}
		if string(room) != "ab........" {
			t.Fatal(name, "wrote into what was handed in, or behind it")
		}
	}
	first, _ := ins.Put(b, api.Ins{})
	b[0] = 'x'
	if string(first) != "ab\x02\x00" {
		t.Error("Put kept what was handed in")
	}
}

// got works out anew what Get answers.
func got(b []byte, at int) ([]api.Ins, int, api.Errno) {
	n, at, e := bin.Get(b, at)
	if e != api.OK {
		return nil, 0, e
	}
	if n < 0 || n > 512 {
		return nil, 0, api.ErrSize
	}
	var code []api.Ins
	for len(code) < int(n) {
		op, to, e := bin.Get(b, at)
		if e != api.OK {
			return nil, 0, e
		}
		if op < 0 || op > 45 {
			return nil, 0, api.ErrCode
		}
		a := int64(0)
		if kindOf(int(op)) != 0 {
			if a, to, e = bin.Get(b, to); e != api.OK {
				return nil, 0, e
			}
		}
		if a < 0 || a > 65535 {
			return nil, 0, api.ErrCode
		}
		code, at = append(code, api.Ins{Op: int(op), A: int(a)}), to
	}
	return code, at, api.OK
}

func holdGet(t *testing.T, b []byte, at int) {
	t.Helper()
	want, wantTo, wantE := got(b, at)
	if code, to, e := ins.Get(b, at); !slices.Equal(code, want) || to != wantTo || e != wantE {
		t.Errorf("Get(% x, %d) = %v, %d, %d, want %v, %d, %d", b[:min(len(b), 40)], at, code, to, e, want, wantTo, wantE)
	}
}

func holdGetError(t *testing.T, b []byte, at int, want api.Errno) {
	t.Helper()
	if code, to, e := ins.Get(b, at); len(code) != 0 || to != 0 || e != want {
		t.Errorf("Get(% x, %d) = %d instructions, %d, %d, want error %d", b[:min(len(b), 40)], at, len(code), to, e, want)
	}
}

// P4.3: how many there are.
func TestGetOfCounts(t *testing.T) {
	for _, at := range []int{-1, math.MinInt, 3, math.MaxInt} {
		holdGetError(t, []byte{2, 0}, at, api.ErrRange)
	}
	holdGetError(t, nil, 0, api.ErrShort)
	holdGetError(t, []byte{2, 0}, 2, api.ErrShort)
	holdGetError(t, []byte{0x80}, 0, api.ErrShort)
	holdGetError(t, []byte{0x80, 0, 0}, 0, api.ErrForm)
	holdGetError(t, bytes.Repeat([]byte{0xff}, 12), 0, api.ErrForm)
	for _, n := range []int64{-1, -2, -512, math.MinInt64, 513, 514, 1 << 31, 1 << 32, 1<<32 + 1, math.MaxInt64} {
		for _, rest := range []string{"", "\x00", "\x80\x00", "\x7e"} {
			holdGetError(t, append(bin.Put(nil, n), rest...), 0, api.ErrSize)
		}
	}
	holdGetError(t, bytesOf(nops(513)), 0, api.ErrSize)
	for _, n := range []int{0, 1, 63, 64, 511, 512} {
		b := bytesOf(nops(n))
		if code, at, e := ins.Get(b, 0); !slices.Equal(code, nops(n)) || at != len(b) || e != api.OK {
			t.Errorf("Get of %d = %d, %d, %d", n, len(code), at, e)
		}
	}
}

// P4.3: bytes that end too early, wherever.
func TestGetOfBytesThatEnd(t *testing.T) {
	code := append(all(), api.Ins{Op: api.Int, A: 65535}, api.Ins{Op: api.Jump, A: 300}, api.Ins{})
	b := bytesOf(code)
	for n := range len(b) {
		holdGetError(t, b[:n], 0, api.ErrShort)
		holdGetError(t, slices.Concat([]byte("ab"), b[:n]), 2, api.ErrShort)
	}
	holdGet(t, b, 0)
}

// P4.3: an Op, or an A, that can not be, or is none of the numbers' bytes, behind others.
func TestGetOfWhatCanNotBe(t *testing.T) {
	for n := range 4 {
		ahead := bin.Put(nil, int64(n+1))
		for i := range n {
			ahead = append(ahead, "\x00\x1e\x44\x42"[i])
		}
		for _, op := range []int64{-1, -2, -46, math.MinInt64, 46, 47, 255, 256, 1 << 31, 1 << 32, 1<<32 + 1, math.MaxInt64} {
			for _, rest := range []string{"", "\x00", "\x80\x00", "\x01"} {
				holdGetError(t, append(bin.Put(ahead, op), rest...), 0, api.ErrCode)
			}
		}
		holdGetError(t, append(bytes.Clone(ahead), 0x80, 0), 0, api.ErrForm)
		for op := range 46 {
			b := bin.Put(ahead, int64(op))
			if kindOf(op) == 0 {
				if _, to, e := ins.Get(append(b, 2, 2), 0); to != len(b) || e != api.OK {
					t.Errorf("Get of %d: %d, %d, want %d, for it has no A", op, to, e, len(b))
				}
				continue
			}
			holdGetError(t, b, 0, api.ErrShort)
			holdGetError(t, append(bytes.Clone(b), 0x80), 0, api.ErrShort)
			holdGetError(t, append(bytes.Clone(b), 0x80, 0), 0, api.ErrForm)
			for _, a := range []int64{-1, -2, math.MinInt64, 65536, 65537, 1 << 31, 1 << 32, 1<<32 + 1, math.MaxInt64} {
				holdGetError(t, bin.Put(b, a), 0, api.ErrCode)
			}
			for _, a := range []int64{0, 1, 511, 512, 65534, 65535} {
				holdGet(t, bin.Put(b, a), 0)
				if code, _, e := ins.Get(bin.Put(b, a), 0); e != api.OK || code[n] != (api.Ins{Op: op, A: int(a)}) {
					t.Errorf("Get of %d %d: %v, %d", op, a, code, e)
				}
			}
		}
	}
}

// P4.3: the first instruction's errors come ahead of the next one's.
func TestGetTellsTheFirstError(t *testing.T) {
	holdGetError(t, []byte("\x04\x7e\x80\x00"), 0, api.ErrCode)
	holdGetError(t, []byte("\x04\x80\x00\x7e"), 0, api.ErrForm)
	holdGetError(t, []byte("\x04\x02\x01\x80\x00"), 0, api.ErrCode)
	holdGetError(t, []byte("\x04\x02\x80\x00\x7e"), 0, api.ErrForm)
	holdGetError(t, []byte("\x04\x02\x01"), 0, api.ErrCode)
	holdGetError(t, []byte("\x04\x02\x02"), 0, api.ErrShort)
	holdGetError(t, []byte("\x04\x01"), 0, api.ErrCode)
}

// P4.3: of all bytes up to three behind a count.
func TestGetOfAllShortBytes(t *testing.T) {
	for c := range 256 {
		holdGet(t, []byte{byte(c)}, 0)
		for d := range 256 {
			for _, last := range []byte{0, 1, 2, 0x7e, 0x80} {
				for _, n := range []byte{2, 4} {
					holdGet(t, []byte{n, byte(c), byte(d), last}, 0)
				}
			}
		}
	}
}

// P4.4: what was put is got as it was, wherever it stands.
func TestCodeIsGotAsItWasPut(t *testing.T) {
	var most []api.Ins
	for i := range 512 {
		op := i % 46
		a := 0
		if kindOf(op) != 0 {
			a = 65535 - 127*i
		}
		most = append(most, api.Ins{Op: op, A: a})
	}
	for _, code := range [][]api.Ins{nil, nops(1), all(), most, most[:511]} {
		b, e := ins.Put([]byte("\xff\x80"), code...)
		if e != api.OK {
			t.Fatalf("Put of %d: error %d", len(code), e)
		}
		to := len(b)
		back, at, e := ins.Get(append(b, 0xff, 0), 2)
		if !slices.Equal(back, code) || at != to || e != api.OK {
			t.Errorf("Get of Put of %d = %d, %d, %d", len(code), len(back), at, e)
		}
		if again, e := ins.Put([]byte("\xff\x80"), back...); !bytes.Equal(again, b) || e != api.OK {
			t.Errorf("Put of Get of %d: others, error %d", len(code), e)
		}
	}
	b, _ := ins.Put(nil, all()...)
	b, _ = ins.Put(b, most...)
	_, at, _ := ins.Get(b, 0)
	if back, to, e := ins.Get(b, at); !slices.Equal(back, most) || to != len(b) || e != api.OK {
		t.Errorf("Get of what stands behind other code = %d, %d, %d", len(back), to, e)
	}
}

// P4.4: an A beyond that can be put, but is not got.
func TestCodeWithAGreaterAIsNotGot(t *testing.T) {
	for _, a := range []int{65536, 1 << 40, math.MaxInt} {
		b, e := ins.Put(nil, api.Ins{Op: api.Jump, A: a})
		if e != api.OK {
			t.Fatalf("Put of jump %d: error %d", a, e)
		}
		holdGetError(t, b, 0, api.ErrCode)
	}
}

// P4.3: code that was got is memory of its own; the bytes stay as they were.
func TestGetSharesNoMemory(t *testing.T) {
	b := bytesOf(all())
	kept := bytes.Clone(b)
	first, _, _ := ins.Get(b, 0)
	second, _, _ := ins.Get(b, 0)
	clear(first)
	if third, _, _ := ins.Get(b, 0); !slices.Equal(second, all()) || !slices.Equal(third, all()) {
		t.Error("Get shares memory with another answer")
	}
	if !bytes.Equal(b, kept) {
		t.Error("Get changed what was handed in")
	}
	clear(b)
	if !slices.Equal(second, all()) {
		t.Error("Get kept what was handed in")
	}
}

// P4.3, P4.4: no bytes and places make it panic, and what is got is put as it was.
func FuzzGet(f *testing.F) {
	f.Add([]byte("\x04\x02\x06\x1e"), 0)
	f.Add([]byte("\x00\x04\x5a\xd8\x04\x2c\x00"), 1)
	f.Fuzz(func(t *testing.T, b []byte, at int) {
		holdGet(t, b, at)
		if code, to, e := ins.Get(b, at); e == api.OK {
			if out, e := ins.Put(nil, code...); !bytes.Equal(out, b[at:to]) || e != api.OK {
				t.Errorf("Put of Get(% x, %d) = % x, %d", b, at, out, e)
			}
		}
	})
}

// P4.1, P4.2: no code makes it panic.
func FuzzCode(f *testing.F) {
	f.Add([]byte("\x02\x06\x1e"), 0, 3)
	f.Fuzz(func(t *testing.T, b []byte, at, locals int) {
		var code []api.Ins
		for i := 0; i+1 < len(b); i += 2 {
			code = append(code, api.Ins{Op: int(int8(b[i])), A: int(int8(b[i+1]))})
		}
		ins.Check(code, consts(), locals)
		ins.Back(code, at)
		if l := ins.Next(code, at); !slices.IsSorted(l) || len(l) > 2 {
			t.Errorf("Next of %v, at %d: %v", code, at, l)
		}
		if l := ins.Uses(code); !slices.IsSorted(l) || len(l) > len(code) {
			t.Errorf("Uses of %v: %v", code, l)
		}
	})
}
