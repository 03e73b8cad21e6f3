// Package desc is layer 2: types as texts. See shared/doc/02-desc.md.
package desc

import (
	"strings"

	"hornbook/api"
	"hornbook/bin"
)

// The types that have no more to them.
const (
	Int  = "I"
	Bool = "B"
	Str  = "S"
	Unit = "V" // no value: of methods alone
	Null = "N" // of null alone
)

// Right tells whether a text is a type of a value.
func Right(d string) bool {
	n, ok := lead(d)
	return ok && n == len(d)
}

// Ref tells whether a type is one of things.
func Ref(d string) bool {
	return d == Null || Right(d) && d != Int && d != Bool
}

// Of answers the type of a class's things.
func Of(class string) string {
	return "L" + class + ";"
}

// Class answers the class of whose things a type is.
func Class(d string) (string, bool) {
	if !Right(d) || d[0] != 'L' {
		return "", false
	}
	return d[1 : len(d)-1], true
}

// Array answers the type of arrays whose elements are of a type.
func Array(d string) (string, api.Errno) {
	if !Right(d) {
		return "", api.ErrDesc
	}
	if rank(d) == api.MaxRank {
		return "", api.ErrDeep
	}
	return "[" + d, api.OK
}

// Elem answers the type of an array's elements.
func Elem(d string) (string, api.Errno) {
	if !Right(d) || d[0] != '[' {
		return "", api.ErrDesc
	}
	return d[1:], api.OK
}

// Sig puts together what a method gives and takes.
func Sig(gives string, takes ...string) (string, api.Errno) {
	if len(takes) > api.MaxArgs {
		return "", api.ErrArg
	}
	for _, d := range takes {
		if !Right(d) {
			return "", api.ErrDesc
		}
	}
	if !given(gives) {
		return "", api.ErrDesc
	}
	return "(" + strings.Join(takes, "") + ")" + gives, api.OK
}

// Split answers what a method gives and takes, as Sig put it together.
func Split(sig string) (string, []string, api.Errno) {
	rest, ok := strings.CutPrefix(sig, "(")
	if !ok {
		return "", nil, api.ErrForm
	}
	var takes []string
	for !strings.HasPrefix(rest, ")") {
		n, ok := lead(rest)
		if !ok || len(takes) == api.MaxArgs {
			return "", nil, api.ErrForm
		}
		takes = append(takes, rest[:n])
		rest = rest[n:]
	}
	gives := rest[1:]
	if !given(gives) {
		return "", nil, api.ErrForm
	}
	return gives, takes, api.OK
}

// Show answers a type as it is written in a source.
func Show(d string) string {
	switch d {
	case Int:
		return "int"
	case Bool:
		return "bool"
	case Str:
		return "str"
	case Unit:
		return "unit"
	case Null:
		return "null"
	}
	if class, ok := Class(d); ok {
		return class
	}
	if elem, e := Elem(d); e == api.OK {
		return Show(elem) + "[]"
	}
	return "?"
}

// given tells whether a method can give values of a type, or none.
func given(d string) bool {
	return d == Unit || Right(d)
}

// rank answers how many brackets stand ahead.
func rank(s string) int {
	return len(s) - len(strings.TrimLeft(s, "["))
}

// lead answers how many bytes the type of a value has with which s begins, if it begins with one.
func lead(s string) (int, bool) {
	k := rank(s)
	if k > api.MaxRank || k == len(s) {
		return 0, false
	}
	switch s[k : k+1] {
	case Int, Bool, Str:
		return k + 1, true
	case "L":
		end := strings.IndexByte(s[k:], ';')
		if end > 0 && bin.Name(s[k+1:k+end]) {
			return k + end + 1, true
		}
	}
	return 0, false
}
