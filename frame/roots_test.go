package frame_test

import (
	"math"
	"slices"
	"testing"

	"hornbook/api"
	"hornbook/frame"
	"hornbook/link"
)

// roots holds what Roots answers, and that Put of that changes nothing.
func roots(t testing.TB, c *frame.Calls, p *link.Prog, want ...int64) {
	t.Helper()
	all := c.All()
	got := c.Roots(p)
	if !slices.Equal(got, want) {
		t.Errorf("Roots = %d, want %d, of %v", got, want, all)
	}
	are(t, c, all...)
	does(t, "Put of Roots", c.Put(p, got...), api.OK)
	are(t, c, all...)
}

// P15.3: which values are of things hangs on the instruction that is next.
func TestRootsOfInstructions(t *testing.T) {
	p := made(t)
	for _, x := range []struct {
		code, pc  int
		low, high []int
	}{
		{0, 0, []int{0, 1}, nil},
		{0, 1, []int{0, 1}, []int{0}},
		{0, 2, []int{0, 1}, []int{0}},
		{0, 3, []int{0, 1}, []int{0, 2}},
		{0, 4, []int{0, 1}, []int{0, 2, 3}},
		{0, 5, []int{0, 1, 4}, []int{0, 2}},
		{0, 6, []int{0, 1, 3, 4}, []int{0}},
		{0, 7, []int{0, 1, 3, 4}, []int{0}},
		{0, 8, []int{0, 1, 3, 4}, nil},
		{1, 0, []int{0}, nil},
		{1, 1, []int{0}, nil},
		{1, 2, []int{0}, nil},
		{1, 3, []int{0}, nil},
		{2, 0, []int{0}, nil},
		{2, 1, []int{0}, []int{0}},
		{2, 2, []int{0}, nil},
		// What is not come to.
		{2, 3, nil, nil},
		{2, 4, nil, nil},
		// Instructions that there are not.
		{0, 9, nil, nil},
		{0, -1, nil, nil},
		{0, math.MinInt, nil, nil},
		{0, math.MaxInt, nil, nil},
		{1, 4, nil, nil},
		{2, 5, nil, nil},
		// Methods that there are not.
		{3, 0, nil, nil},
		{-1, 0, nil, nil},
		{math.MinInt, 0, nil, nil},
		{math.MaxInt, 0, nil, nil},
	} {
		// All that is of a thing, and is there, whatever else is there.
		for locals := range 7 {
			for stack := range 6 {
				all := []int64{10, 11, 12, 13, 14, 15}[:locals]
				high := []int64{-20, -21, -22, -23, -24}[:stack]
				var want []int64
				for _, i := range x.low {
					if i < locals {
						want = append(want, all[i])
					}
				}
				for _, i := range x.high {
					if i < stack {
						want = append(want, high[i])
					}
				}
				roots(t, called(t, x.code, x.pc, all, high), p, want...)
			}
		}
	}
}

// P15.3: of all calls, the first one first; values that are 0, and that are alike, too.
func TestRootsOfCalls(t *testing.T) {
	p := made(t)
	c := called(t, 0, 5, []int64{1, 2, 3, 4, 5}, []int64{6, 7, 8})
	call(t, c, 1, 2, []int64{1, 9}, []int64{9})
	call(t, c, 7, 0, []int64{9, 9}, []int64{9})
	call(t, c, 0, 99, []int64{9, 9}, []int64{9})
	call(t, c, 2, 1, []int64{0}, []int64{math.MinInt64, 9})
	call(t, c, 0, 4, []int64{math.MaxInt64, 1, 9, 9, 9}, []int64{21, 9})
	roots(t, c, p, 1, 2, 5, 6, 8, 1, 0, math.MinInt64, math.MaxInt64, 1, 21)
	roots(t, c, shortProg(t), 1)
	roots(t, c, &link.Prog{})
	for range 5 {
		c.Back()
	}
	roots(t, c, p, 1, 2, 5, 6, 8)
}

// shortProg answers a program of two methods: what has the number 0 in it is of just one instruction, n has the number 1 as it does in the other one.
func shortProg(t testing.TB) *link.Prog {
	t.Helper()
	l := methods(t)
	l[0] = api.Method{Name: "a", Sig: "()V", Locals: 1, Code: code(t, "jump")}
	return progOf(t, l[0], l[1])
}

// P15.3: there must be as many as Roots; then just these are others.
func TestPut(t *testing.T) {
	p := made(t)
	c := called(t, 0, 5, []int64{1, 2, 3, 4, 5}, []int64{6, 7, 8})
	call(t, c, 9, 0, []int64{10}, []int64{11})
	call(t, c, 2, 1, []int64{12}, []int64{13, 14})
	before := c.All()
	for n := range 12 {
		if n == 7 {
			continue
		}
		does(t, "Put of a wrong number", c.Put(p, make([]int64, n)...), api.ErrArg)
		are(t, c, before...)
	}
	list := []int64{-1, 0, math.MaxInt64, -4, -5, math.MinInt64, -4}
	does(t, "Put", c.Put(p, list...), api.OK)
	want := []frame.Frame{
		{Pc: 5, Locals: []int64{-1, 0, 3, 4, math.MaxInt64}, Stack: []int64{-4, 7, -5}},
		{Code: 9, Locals: []int64{10}, Stack: []int64{11}},
		{Code: 2, Pc: 1, Locals: []int64{math.MinInt64}, Stack: []int64{-4, 14}},
	}
	are(t, c, want...)
	if !slices.Equal(list, []int64{-1, 0, math.MaxInt64, -4, -5, math.MinInt64, -4}) {
		t.Errorf("Put has changed what is handed in: %d", list)
	}
	clear(list)
	are(t, c, want...)
	roots(t, c, p, -1, 0, math.MaxInt64, -4, -5, math.MinInt64, -4)
	does(t, "Put of another program", c.Put(&link.Prog{}), api.OK)
	does(t, "Put of another program", c.Put(&link.Prog{}, 1, 2, 3, 4, 5, 6, 7), api.ErrArg)
	are(t, c, want...)
	l := c.Roots(p)
	l[0] = 99
	_ = append(l[:1], 99, 99, 99)
	are(t, c, want...)
	roots(t, c, p, -1, 0, math.MaxInt64, -4, -5, math.MinInt64, -4)
}

// P15.4: all methods have other numbers, or none.
func TestTurn(t *testing.T) {
	for _, x := range []struct {
		calls, codes []int
		want         api.Errno
		now          []int
	}{
		{nil, nil, api.OK, nil},
		{nil, []int{-1}, api.OK, nil},
		{[]int{0}, []int{0}, api.OK, []int{0}},
		{[]int{0}, []int{5}, api.OK, []int{5}},
		{[]int{0}, []int{math.MaxInt}, api.OK, []int{math.MaxInt}},
		{[]int{0}, nil, api.ErrNone, nil},
		{[]int{0}, []int{-1}, api.ErrNone, nil},
		{[]int{0}, []int{math.MinInt}, api.ErrNone, nil},
		{[]int{1}, []int{7}, api.ErrNone, nil},
		{[]int{-1}, []int{7}, api.ErrNone, nil},
		{[]int{math.MinInt}, []int{7, 7}, api.ErrNone, nil},
		{[]int{math.MaxInt}, []int{7, 7}, api.ErrNone, nil},
		{[]int{2, 0, 1, 2}, []int{1, 2, 0}, api.OK, []int{0, 1, 2, 0}},
		{[]int{2, 0, 1, 2}, []int{8, 8, 8, -1}, api.OK, []int{8, 8, 8, 8}},
		{[]int{2, 0, 2}, []int{4, -1, 6}, api.OK, []int{6, 4, 6}},
		// One of them alone has none: the first one, or the last one.
		{[]int{2, 0, 1}, []int{4, 5, -1}, api.ErrNone, nil},
		{[]int{2, 0, 1}, []int{4, -1, 6}, api.ErrNone, nil},
		{[]int{2, 0, 3}, []int{4, 5, 6}, api.ErrNone, nil},
		{[]int{0, 0, -1}, []int{4, 5, 6}, api.ErrNone, nil},
	} {
		c := frame.New()
		var want []frame.Frame
		for i, number := range x.calls {
			call(t, c, number, i, []int64{5}, []int64{6})
			want = append(want, frame.Frame{Code: number, Pc: i, Locals: []int64{5}, Stack: []int64{6}})
		}
		codes := slices.Clone(x.codes)
		does(t, "Turn", c.Turn(codes...), x.want)
		if !slices.Equal(codes, x.codes) {
			t.Errorf("Turn has changed what is handed in: %d", codes)
		}
		for i := range x.now {
			want[i].Code = x.now[i]
		}
		are(t, c, want...)
	}
}

// P15.3, P15.4: turned calls have the values of things of their new methods.
func TestRootsOfTurned(t *testing.T) {
	l := methods(t)
	p, q := progOf(t, l...), progOf(t, l[2], l[1], l[0])
	c := called(t, 0, 4, []int64{1, 2, 3, 4, 5}, []int64{6, 7, 8, 9})
	call(t, c, 2, 3, []int64{10}, []int64{11})
	roots(t, c, p, 1, 2, 6, 8, 9)
	roots(t, c, q, 10, 11)
	does(t, "Turn", c.Turn(2, 1, 0), api.OK)
	roots(t, c, q, 1, 2, 6, 8, 9)
	roots(t, c, p, 10, 11)
}
