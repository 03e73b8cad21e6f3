package turn

import (
	"slices"

	"hornbook/api"
	"hornbook/arith"
	"hornbook/desc"
	"hornbook/effect"
)

// sorts is the types on the stack of a move's code.
type sorts struct {
	// Where each one's type stands: an old field that is on the stack twice is of one type.
	stack []*string
	// The types of old fields, by their places; "" of those of which nothing was asked so far.
	old []string
}

// run answers what a move's code leaves, and how much fuel it took.
func run(code []Op, fields []int64, fuel int) (int64, int, api.Errno) {
	s := sorts{old: make([]string, len(fields))}
	var stack []int64
	for took, o := range code {
		if took >= fuel {
			return 0, took, api.ErrFuel
		}
		if !s.step(o) {
			return 0, took + 1, api.ErrTurn
		}
		left, e := do(o, fields, stack)
		if e != api.OK {
			return 0, took + 1, api.ErrTurn
		}
		stack = left
	}
	if len(stack) != 1 {
		return 0, len(code), api.ErrTurn
	}
	return stack[0], len(code), api.OK
}

// do answers the stack behind an instruction, that fits.
func do(o Op, fields, stack []int64) ([]int64, api.Errno) {
	switch o.Op {
	case api.Nop:
		return stack, api.OK
	case api.Int:
		return append(stack, o.N), api.OK
	case api.True:
		return append(stack, 1), api.OK
	case api.False:
		return append(stack, 0), api.OK
	case api.Old:
		return append(stack, fields[o.A]), api.OK
	case api.Pop:
		return cut(stack, 1), api.OK
	case api.Dup:
		return append(stack, stack[len(stack)-1]), api.OK
	case api.Neg, api.Not:
		left := cut(stack, 1)
		v, e := arith.Do(o.Op, stack[len(left)], 0)
		return append(left, v), e
	}
	// All others take two values.
	left := cut(stack, 2)
	v, e := arith.Do(o.Op, stack[len(left)], stack[len(left)+1])
	return append(left, v), e
}

// cut answers a stack without so many on top. What is put on it then is not written into the memory of what was there.
func cut[T any](stack []T, many int) []T {
	at := len(stack) - many
	return stack[:at:at]
}

// step does an instruction with types alone, if it fits.
func (s *sorts) step(o Op) bool {
	return s.can(o) && len(s.stack) <= api.MaxStack
}

// can does an instruction, however many it leaves.
func (s *sorts) can(o Op) bool {
	switch o.Op {
	case api.Nop:
		return true
	case api.Int:
		return s.leave(desc.Int)
	case api.Old:
		if o.A < 0 || o.A >= len(s.old) {
			return false
		}
		s.stack = append(s.stack, &s.old[o.A])
		return true
	case api.Pop:
		_, ok := s.pop()
		return ok
	case api.Dup:
		d, ok := s.pop()
		s.stack = append(s.stack, d, d)
		return ok
	}
	takes, leaves, ok := effect.Of(o.Op)
	return ok && s.take(takes...) && s.leave(leaves)
}

// pop takes a value, and answers where its type stands.
func (s *sorts) pop() (*string, bool) {
	if len(s.stack) == 0 {
		return nil, false
	}
	d := s.stack[len(s.stack)-1]
	s.stack = cut(s.stack, 1)
	return d, true
}

// take takes values of some types, the last one from the top. An old field of which nothing was asked so far is of the type that is asked for.
func (s *sorts) take(types ...string) bool {
	for _, want := range slices.Backward(types) {
		d, ok := s.pop()
		if !ok {
			return false
		}
		if *d == "" {
			*d = want
		}
		if *d != want {
			return false
		}
	}
	return true
}

// leave leaves a value of a type.
func (s *sorts) leave(d string) bool {
	s.stack = append(s.stack, &d)
	return true
}
