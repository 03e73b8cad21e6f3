// Package asm writes classes from short texts. It is for tests.
package asm

import (
	"strconv"
	"strings"

	"hornbook/api"
	"hornbook/ins"
	"hornbook/pool"
)

// Class is one that is being written. Wrong is the first text that says nothing; none, if all do.
type Class struct {
	api.Class
	Wrong string
}

// New answers a class with fields, each a name and a type, and no methods yet.
func New(name, super string, fields ...string) *Class {
	c := &Class{Class: api.Class{Name: name, Super: super}}
	for _, text := range fields {
		field, d, _ := strings.Cut(text, " ")
		c.Fields = append(c.Fields, api.Field{Name: field, Desc: d})
	}
	return c
}

// Method writes one more. Its instructions are parted by commas, each a name and what it is of: a number, a text, a type, x.y:d of a field or a method, a local, a place. Words with @ ahead stand where a place is, and speak of it, also in handlers: from, to, at, and a class.
func (c *Class) Method(name, sig string, locals int, text string, hand ...string) *Class {
	m := api.Method{Name: name, Sig: sig, Locals: locals}
	places := map[string]int{}
	parts := strings.Split(text, ",")
	for at, part := range parts {
		part = strings.TrimLeft(part, " \n\t")
		for strings.HasPrefix(part, "@") {
			place, rest, _ := strings.Cut(part, " ")
			places[place], part = at, rest
		}
		parts[at] = part
	}
	for _, part := range parts {
		m.Code = append(m.Code, c.ins(part, places))
	}
	for _, h := range hand {
		w := append(strings.Fields(h), "", "", "", "")
		m.Hand = append(m.Hand, api.Hand{From: c.place(w[0], places), To: c.place(w[1], places), At: c.place(w[2], places), Class: w[3]})
	}
	c.Methods = append(c.Methods, m)
	return c
}

// Ins answers an instruction of a text, that speaks of no place; its constant stands in the class.
func (c *Class) Ins(text string) api.Ins {
	return c.ins(text, nil)
}

// Classes answers the classes that were written, and the first text that says nothing.
func Classes(l ...*Class) ([]api.Class, string) {
	var classes []api.Class
	for _, c := range l {
		if c.Wrong != "" {
			return nil, c.Wrong
		}
		classes = append(classes, c.Class)
	}
	return classes, ""
}

// ins answers an instruction of a text.
func (c *Class) ins(text string, places map[string]int) api.Ins {
	name, of, _ := strings.Cut(text, " ")
	x := api.Ins{Op: ins.Find(name)}
	switch ins.Kind(x.Op) {
	case -1:
		c.wrong(text)
	case ins.OfInt:
		x.A = c.constant(api.Const{Kind: api.CInt, N: c.number(of)})
	case ins.OfStr:
		x.A = c.constant(api.Const{Kind: api.CStr, S: of})
	case ins.OfType:
		x.A = c.constant(api.Const{Kind: api.CType, S: of})
	case ins.OfField:
		x.A = c.member(api.CField, of)
	case ins.OfMeth:
		x.A = c.member(api.CMeth, of)
	case ins.OfLocal:
		// Without a number it is the local 0.
		if of != "" {
			x.A = int(c.number(of))
		}
	case ins.OfPlace:
		x.A = c.place(of, places)
	}
	return x
}

// member answers the place of the constant of a field, or a method.
func (c *Class) member(kind int, of string) int {
	name, d, _ := strings.Cut(of, ":")
	owner, member, _ := strings.Cut(name, ".")
	return c.constant(api.Const{Kind: kind, S: owner, T: member, U: d})
}

// constant answers the place of one among the class's.
func (c *Class) constant(k api.Const) int {
	l, at, e := pool.Add(c.Consts, k)
	if e != api.OK {
		c.wrong(k.S + k.T + k.U)
		return 0
	}
	c.Consts = l
	return at
}

// number answers the number of a text.
func (c *Class) number(text string) int64 {
	n, err := strconv.ParseInt(text, 10, 64)
	if err != nil {
		c.wrong(text)
	}
	return n
}

// place answers the place that a word stands at.
func (c *Class) place(word string, places map[string]int) int {
	at, ok := places[word]
	if !ok {
		c.wrong(word)
	}
	return at
}

// wrong notes a text that says nothing.
func (c *Class) wrong(text string) {
	if c.Wrong == "" {
		c.Wrong = strconv.Quote(text)
	}
}
