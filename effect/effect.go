// Package effect says what instructions of numbers and truths alone take from a stack, and leave on it.
package effect

import (
	"hornbook/api"
	"hornbook/desc"
)

// Of answers the types that an instruction takes, the top last, and the one that it leaves; false of all but those that have no A, take numbers and truths alone, and leave one.
func Of(op int) ([]string, string, bool) {
	switch op {
	case api.True, api.False:
		return nil, desc.Bool, true
	case api.Add, api.Sub, api.Mul, api.Div, api.Rem:
		return []string{desc.Int, desc.Int}, desc.Int, true
	case api.Neg:
		return []string{desc.Int}, desc.Int, true
	case api.Not:
		return []string{desc.Bool}, desc.Bool, true
	case api.Lt, api.Le, api.EqI:
		return []string{desc.Int, desc.Int}, desc.Bool, true
	case api.EqB:
		return []string{desc.Bool, desc.Bool}, desc.Bool, true
	}
	return nil, "", false
}
