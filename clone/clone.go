// Package clone answers classes in memory of their own.
package clone

import (
	"slices"

	"hornbook/api"
)

// Class answers a class that shares no list with another one.
func Class(c api.Class) api.Class {
	c.Consts = slices.Clone(c.Consts)
	c.Fields = slices.Clone(c.Fields)
	c.Methods = slices.Clone(c.Methods)
	for i, m := range c.Methods {
		c.Methods[i] = Method(m)
	}
	return c
}

// Method answers a method that shares no list with another one.
func Method(m api.Method) api.Method {
	m.Code = slices.Clone(m.Code)
	m.Hand = slices.Clone(m.Hand)
	return m
}
