package clone_test

import (
	"reflect"
	"testing"

	"hornbook/api"
	"hornbook/clone"
)

// whole answers a class that has all that a class may have, each list with room behind it.
func whole() api.Class {
	m := api.Method{Name: "m", Sig: "()V", Locals: 2, Code: append(make([]api.Ins, 0, 9), api.Ins{Op: api.Load, A: 1}), Hand: append(make([]api.Hand, 0, 9), api.Hand{To: 1, Class: "Exc"})}
	return api.Class{
		Name: "A", Super: "Object",
		Consts:  append(make([]api.Const, 0, 9), api.Const{Kind: api.CInt, N: 5}),
		Fields:  append(make([]api.Field, 0, 9), api.Field{Name: "x", Desc: "I"}),
		Methods: append(make([]api.Method, 0, 9), m),
	}
}

// spoil writes into all that a class has, and behind it.
func spoil(c api.Class) {
	c.Consts[0].N++
	c.Fields[0].Name = "y"
	c.Methods[0].Code[0].A++
	c.Methods[0].Hand[0].To++
	_ = append(c.Methods[0].Code, api.Ins{Op: api.Pop})
	_ = append(c.Methods[0].Hand, api.Hand{To: 7})
	c.Methods[0].Name = "n"
	_ = append(c.Consts, api.Const{Kind: 7})
	_ = append(c.Fields, api.Field{Name: "z"})
	_ = append(c.Methods, api.Method{Name: "o"})
}

// behind answers what stands behind each list's end.
func behind(c api.Class) []any {
	return []any{c.Consts[:2][1], c.Fields[:2][1], c.Methods[:2][1], c.Methods[0].Code[:2][1], c.Methods[0].Hand[:2][1]}
}

// It is the same, and what is written into one is not seen in the other.
func TestClass(t *testing.T) {
	c := whole()
	x, y := clone.Class(c), clone.Class(c)
	if !reflect.DeepEqual(x, whole()) {
		t.Errorf("Class = %v", x)
	}
	spoil(x)
	if !reflect.DeepEqual(c, whole()) || !reflect.DeepEqual(behind(c), behind(whole())) || !reflect.DeepEqual(y, whole()) {
		t.Errorf("what was written into one is seen in %v, %v", c, y)
	}
	spoil(c)
	if !reflect.DeepEqual(y, whole()) {
		t.Errorf("what was written into one is seen in %v", y)
	}
	if x := clone.Class(api.Class{}); !reflect.DeepEqual(x, api.Class{}) {
		t.Errorf("of nothing Class = %v", x)
	}
}

// Likewise of a method.
func TestMethod(t *testing.T) {
	c := whole()
	m := clone.Method(c.Methods[0])
	if !reflect.DeepEqual(m, whole().Methods[0]) {
		t.Errorf("Method = %v", m)
	}
	spoil(c)
	if !reflect.DeepEqual(m, whole().Methods[0]) {
		t.Errorf("what was written into one is seen in %v", m)
	}
}
