package klass_test

import (
	"encoding/binary"
	"reflect"
	"regexp"

	"hornbook/api"
	"hornbook/bin"
	"hornbook/ins"
	"hornbook/pool"
)

// What the words of the chapters say of texts, as patterns.
const (
	nameText  = `[A-Za-z_][A-Za-z0-9_]{0,23}`
	valueText = `\[{0,4}(?:I|B|S|L` + nameText + `;)`
)

var (
	name  = regexp.MustCompile(`^` + nameText + `\z`).MatchString
	value = regexp.MustCompile(`^` + valueText + `\z`).MatchString
	sig   = regexp.MustCompile(`^\((?:` + valueText + `){0,6}\)(?:` + valueText + `|V)\z`).MatchString
	each  = regexp.MustCompile(valueText)
)

// must goes out with an error, if a thing does not hold.
func must(holds bool, e api.Errno) {
	if !holds {
		panic(e)
	}
}

// firstError tells the error that must goes out with, while something is done.
func firstError(do func()) (e api.Errno) {
	defer func() {
		if x := recover(); x != nil {
			e = x.(api.Errno)
		}
	}()
	do()
	return api.OK
}

// right works out anew, rule by rule, what Right answers.
func right(c api.Class) api.Errno {
	return firstError(func() { mustBeRight(c) })
}

func mustBeRight(c api.Class) {
	must(name(c.Name), api.ErrName)
	must(name(c.Super), api.ErrName)
	must(len(c.Consts) <= 256, api.ErrSize)
	for _, k := range c.Consts {
		must(pool.Right(k), api.ErrConst)
	}
	consts := map[api.Const]bool{}
	for _, k := range c.Consts {
		must(!consts[k], api.ErrTwice)
		consts[k] = true
	}
	must(len(c.Fields) <= 16, api.ErrSize)
	fields := map[string]bool{}
	for _, f := range c.Fields {
		must(name(f.Name), api.ErrName)
		must(value(f.Desc), api.ErrDesc)
		must(!fields[f.Name], api.ErrTwice)
		fields[f.Name] = true
	}
	must(len(c.Methods) <= 32, api.ErrSize)
	methods := map[string]bool{}
	for _, m := range c.Methods {
		must(name(m.Name), api.ErrName)
		must(sig(m.Sig), api.ErrForm)
		must(!methods[m.Name], api.ErrTwice)
		methods[m.Name] = true
		mustBeRightWithin(m, c.Consts)
	}
}

// mustBeRightWithin holds what stands of a method behind its name and Sig.
func mustBeRightWithin(m api.Method, consts []api.Const) {
	must(m.Locals <= 24, api.ErrArg)
	must(m.Locals >= 1+howManyTaken(m.Sig), api.ErrArg)
	_, e := ins.Check(m.Code, consts, m.Locals)
	must(e == api.OK, e)
	for _, i := range m.Code {
		must(ins.Name(i.Op) != "old", api.ErrCode)
	}
	must(len(m.Hand) <= 8, api.ErrSize)
	for _, h := range m.Hand {
		must(0 <= h.From, api.ErrRange)
		must(h.From < h.To, api.ErrRange)
		must(h.To <= len(m.Code), api.ErrRange)
		must(0 <= h.At, api.ErrRange)
		must(h.At < len(m.Code), api.ErrRange)
		must(name(h.Class), api.ErrName)
	}
}

// howManyTaken counts the types between the brackets of a Sig.
func howManyTaken(s string) int {
	end := len(s) - 1
	for s[end] != ')' {
		end--
	}
	return len(each.FindAllString(s[1:end], -1))
}

// number answers a number's bytes: what the chapter says of them is the library's varint.
func number(n int) []byte {
	return binary.AppendVarint(nil, int64(n))
}

func text(s string) []byte {
	return append(number(len(s)), s...)
}

// join puts bytes one behind the other.
func join(l ...[]byte) []byte {
	var b []byte
	for _, x := range l {
		b = append(b, x...)
	}
	return b
}

// bytesOf works out anew the bytes of a class.
func bytesOf(c api.Class) []byte {
	b := join([]byte{0x48, 0x42, 0x4b, 0x31}, text(c.Name), text(c.Super), bytesOfConsts(c.Consts), number(len(c.Fields)))
	for _, f := range c.Fields {
		b = join(b, text(f.Name), text(f.Desc))
	}
	b = append(b, number(len(c.Methods))...)
	for _, m := range c.Methods {
		b = join(b, text(m.Name), text(m.Sig), number(m.Locals), bytesOfCode(m.Code), number(len(m.Hand)))
		for _, h := range m.Hand {
			b = join(b, number(h.From), number(h.To), number(h.At), text(h.Class))
		}
	}
	return b
}

func bytesOfConsts(l []api.Const) []byte {
	b := number(len(l))
	for _, k := range l {
		b = append(b, number(k.Kind)...)
		switch k.Kind {
		case 1:
			b = binary.AppendVarint(b, k.N)
		case 2, 3:
			b = append(b, text(k.S)...)
		default:
			b = join(b, text(k.S), text(k.T), text(k.U))
		}
	}
	return b
}

func bytesOfCode(code []api.Ins) []byte {
	b := number(len(code))
	for _, i := range code {
		b = append(b, number(i.Op)...)
		if ins.Kind(i.Op) != ins.Plain {
			b = append(b, number(i.A)...)
		}
	}
	return b
}

// tape is bytes that are read from one end to the other.
type tape struct {
	b  []byte
	at int
}

func (t *tape) number(most int, beyond api.Errno) int {
	n, at, e := bin.Get(t.b, t.at)
	must(e == api.OK, e)
	must(n >= 0 && n <= int64(most), beyond)
	t.at = at
	return int(n)
}

func (t *tape) text() string {
	s, at, e := bin.GetText(t.b, t.at, 256)
	must(e == api.OK, e)
	t.at = at
	return s
}

// got works out anew what Get answers.
func got(b []byte) (api.Class, api.Errno) {
	var c api.Class
	e := firstError(func() {
		must(len(b) <= 65536, api.ErrSize)
		must(len(b) >= 4 && string(b[:4]) == "\x48\x42\x4b\x31", api.ErrForm)
		t := &tape{b, 4}
		c = t.class()
		must(t.at == len(b), api.ErrForm)
		mustBeRight(c)
	})
	if e != api.OK {
		return api.Class{}, e
	}
	return c, e
}

func (t *tape) class() api.Class {
	c := api.Class{Name: t.text(), Super: t.text()}
	consts, at, e := pool.GetAll(t.b, t.at)
	must(e == api.OK, e)
	c.Consts, t.at = consts, at
	for range t.number(16, api.ErrSize) {
		c.Fields = append(c.Fields, api.Field{Name: t.text(), Desc: t.text()})
	}
	for range t.number(32, api.ErrSize) {
		c.Methods = append(c.Methods, t.method())
	}
	return c
}

func (t *tape) method() api.Method {
	m := api.Method{Name: t.text(), Sig: t.text(), Locals: t.number(65535, api.ErrArg)}
	code, at, e := ins.Get(t.b, t.at)
	must(e == api.OK, e)
	m.Code, t.at = code, at
	for range t.number(8, api.ErrSize) {
		h := api.Hand{From: t.number(65535, api.ErrArg), To: t.number(65535, api.ErrArg), At: t.number(65535, api.ErrArg)}
		h.Class = t.text()
		m.Hand = append(m.Hand, h)
	}
	return m
}

// canon works out anew what Canon answers of a class that can be.
func canon(c api.Class) api.Class {
	out := api.Class{Name: c.Name, Super: c.Super, Fields: c.Fields}
	place := map[api.Const]int{}
	for _, m := range c.Methods {
		var code []api.Ins
		for _, i := range m.Code {
			if k := ins.Kind(i.Op); k >= 1 && k <= 5 {
				meant := c.Consts[i.A]
				if _, ok := place[meant]; !ok {
					place[meant] = len(out.Consts)
					out.Consts = append(out.Consts, meant)
				}
				i.A = place[meant]
			}
			code = append(code, i)
		}
		m.Code = code
		out.Methods = append(out.Methods, m)
	}
	return out
}

// whole is a class in memory of its own, whose lists of none are nil.
func whole(c api.Class) api.Class {
	c.Consts = append([]api.Const(nil), c.Consts...)
	c.Fields = append([]api.Field(nil), c.Fields...)
	c.Methods = append([]api.Method(nil), c.Methods...)
	for i, m := range c.Methods {
		c.Methods[i].Code = append([]api.Ins(nil), m.Code...)
		c.Methods[i].Hand = append([]api.Hand(nil), m.Hand...)
	}
	return c
}

// alike works out anew what Same answers.
func alike(a, b api.Class) bool {
	return reflect.DeepEqual(whole(a), whole(b))
}
