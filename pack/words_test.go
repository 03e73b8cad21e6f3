package pack_test

import (
	"encoding/binary"
	"reflect"
	"regexp"
	"slices"
	"strings"

	"hornbook/api"
	"hornbook/bin"
	"hornbook/ins"
	"hornbook/klass"
	"hornbook/pool"
)

// allowed are the instructions of a move's code, as the chapter lists them.
const allowed = "nop int true false old pop dup add sub mul div rem neg not lt le eqi eqb"

var name = regexp.MustCompile(`^[A-Za-z_][A-Za-z0-9_]{0,23}\z`).MatchString

// must goes out with an error, if a thing does not hold.
func must(holds bool, e api.Errno) {
	if !holds {
		panic(e)
	}
}

// firstError tells the error that must goes out with, while something is done.
func firstError(do func()) (e api.Errno) {
	defer func() {
		if x := recover(); x != nil {
			e = x.(api.Errno)
		}
	}()
	do()
	return api.OK
}

// right works out anew, rule by rule, what Right answers.
func right(x api.Bundle) api.Errno {
	return firstError(func() { mustBeRight(x) })
}

func mustBeRight(x api.Bundle) {
	must(len(x.Classes) <= 32, api.ErrSize)
	classes := map[string]bool{}
	for _, c := range x.Classes {
		e := klass.Right(c)
		must(e == api.OK, e)
		must(!classes[c.Name], api.ErrTwice)
		classes[c.Name] = true
	}
	must(len(x.Turns) <= 32, api.ErrSize)
	turns := map[string]bool{}
	for _, t := range x.Turns {
		must(classes[t.Class], api.ErrNone)
		must(!turns[t.Class], api.ErrTwice)
		turns[t.Class] = true
		mustBeConsts(t.Consts)
		must(len(t.Moves) <= 16, api.ErrSize)
		moves := map[string]bool{}
		for _, m := range t.Moves {
			must(name(m.Field), api.ErrName)
			must(!moves[m.Field], api.ErrTwice)
			moves[m.Field] = true
			mustBeMove(m, t.Consts)
		}
	}
}

func mustBeConsts(l []api.Const) {
	must(len(l) <= 256, api.ErrSize)
	for _, k := range l {
		must(pool.Right(k), api.ErrConst)
	}
	seen := map[api.Const]bool{}
	for _, k := range l {
		must(!seen[k], api.ErrTwice)
		seen[k] = true
	}
}

// mustBeMove holds what stands of a move behind its field.
func mustBeMove(m api.Move, consts []api.Const) {
	must(m.Kind >= 0 && m.Kind <= 2, api.ErrArg)
	if m.Kind == 1 {
		must(name(m.From), api.ErrName)
	} else {
		must(m.From == "", api.ErrArg)
	}
	if m.Kind != 2 {
		must(len(m.Code) == 0, api.ErrArg)
		return
	}
	_, e := ins.Check(m.Code, consts, 0)
	must(e == api.OK, e)
	for _, i := range m.Code {
		must(slices.Contains(strings.Fields(allowed), ins.Name(i.Op)), api.ErrCode)
	}
}

// number answers a number's bytes: what the chapter says of them is the library's varint.
func number(n int) []byte {
	return binary.AppendVarint(nil, int64(n))
}

func text(s string) []byte {
	return append(number(len(s)), s...)
}

// join puts bytes one behind the other.
func join(l ...[]byte) []byte {
	var b []byte
	for _, x := range l {
		b = append(b, x...)
	}
	return b
}

// bytesOf works out anew the bytes of a bundle whose classes have some.
func bytesOf(x api.Bundle) []byte {
	b := join([]byte{0x48, 0x42, 0x50, 0x31}, number(len(x.Classes)))
	for _, c := range x.Classes {
		b = join(b, bytesOfClass(c))
	}
	b = append(b, number(len(x.Turns))...)
	for _, t := range x.Turns {
		b = join(b, text(t.Class), bytesOfConsts(t.Consts), number(len(t.Moves)))
		for _, m := range t.Moves {
			b = join(b, text(m.Field), number(m.Kind))
			if m.Kind == 1 {
				b = append(b, text(m.From)...)
			}
			if m.Kind == 2 {
				b = append(b, bytesOfCode(m.Code)...)
			}
		}
	}
	return b
}

// bytesOfClass has them as a text.
func bytesOfClass(c api.Class) []byte {
	b, e := klass.Put(c)
	must(e == api.OK, e)
	return text(string(b))
}

func bytesOfConsts(l []api.Const) []byte {
	b := number(len(l))
	for _, k := range l {
		b = append(b, number(k.Kind)...)
		switch k.Kind {
		case 1:
			b = binary.AppendVarint(b, k.N)
		case 2, 3:
			b = append(b, text(k.S)...)
		default:
			b = join(b, text(k.S), text(k.T), text(k.U))
		}
	}
	return b
}

func bytesOfCode(code []api.Ins) []byte {
	b := number(len(code))
	for _, i := range code {
		b = append(b, number(i.Op)...)
		if ins.Kind(i.Op) != ins.Plain {
			b = append(b, number(i.A)...)
		}
	}
	return b
}

// tape is bytes that are read from one end to the other.
type tape struct {
	b  []byte
	at int
}

func (t *tape) number(most int, beyond api.Errno) int {
	n, at, e := bin.Get(t.b, t.at)
	must(e == api.OK, e)
	must(n >= 0 && n <= int64(most), beyond)
	t.at = at
	return int(n)
}

func (t *tape) text(most int) string {
	s, at, e := bin.GetText(t.b, t.at, most)
	must(e == api.OK, e)
	t.at = at
	return s
}

// got works out anew what Get answers.
func got(b []byte) (api.Bundle, api.Errno) {
	var x api.Bundle
	e := firstError(func() {
		must(len(b) <= 65536, api.ErrSize)
		must(len(b) >= 4 && string(b[:4]) == "\x48\x42\x50\x31", api.ErrForm)
		t := &tape{b, 4}
		for range t.number(32, api.ErrSize) {
			c, e := klass.Get([]byte(t.text(65536)))
			must(e == api.OK, e)
			x.Classes = append(x.Classes, c)
		}
		for range t.number(32, api.ErrSize) {
			x.Turns = append(x.Turns, t.turn())
		}
		must(t.at == len(b), api.ErrForm)
		mustBeRight(x)
	})
	if e != api.OK {
		return api.Bundle{}, e
	}
	return x, e
}

func (t *tape) turn() api.Turn {
	u := api.Turn{Class: t.text(256)}
	consts, at, e := pool.GetAll(t.b, t.at)
	must(e == api.OK, e)
	u.Consts, t.at = consts, at
	for range t.number(16, api.ErrSize) {
		m := api.Move{Field: t.text(256), Kind: t.number(2, api.ErrArg)}
		if m.Kind == 1 {
			m.From = t.text(256)
		}
		if m.Kind == 2 {
			code, at, e := ins.Get(t.b, t.at)
			must(e == api.OK, e)
			m.Code, t.at = code, at
		}
		u.Moves = append(u.Moves, m)
	}
	return u
}

// whole is a bundle in memory of its own, whose lists of none are nil.
func whole(x api.Bundle) api.Bundle {
	x.Classes = append([]api.Class(nil), x.Classes...)
	for i, c := range x.Classes {
		x.Classes[i] = wholeClass(c)
	}
	x.Turns = append([]api.Turn(nil), x.Turns...)
	for i, t := range x.Turns {
		t.Consts = append([]api.Const(nil), t.Consts...)
		t.Moves = append([]api.Move(nil), t.Moves...)
		for k, m := range t.Moves {
			t.Moves[k].Code = append([]api.Ins(nil), m.Code...)
		}
		x.Turns[i] = t
	}
	return x
}

func wholeClass(c api.Class) api.Class {
	c.Consts = append([]api.Const(nil), c.Consts...)
	c.Fields = append([]api.Field(nil), c.Fields...)
	c.Methods = append([]api.Method(nil), c.Methods...)
	for i, m := range c.Methods {
		c.Methods[i].Code = append([]api.Ins(nil), m.Code...)
		c.Methods[i].Hand = append([]api.Hand(nil), m.Hand...)
	}
	return c
}

// alike works out anew what Same answers.
func alike(a, b api.Bundle) bool {
	return reflect.DeepEqual(whole(a), whole(b))
}
