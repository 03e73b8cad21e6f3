package lock_test

import (
	"math"
	"slices"
	"testing"

	"hornbook/api"
	"hornbook/lock"
)

// held is a thing that is held, by a thread, so often.
type held struct {
	at    int64
	who   int
	times int
}

// are holds that just these things are held, in this order.
func are(t testing.TB, l *lock.Locks, want ...held) {
	t.Helper()
	var addresses []int64
	many := map[int]int{}
	for _, h := range want {
		addresses = append(addresses, h.at)
		many[h.who]++
		if who, times, ok := l.Owner(h.at); who != h.who || times != h.times || !ok {
			t.Errorf("Owner(%d) = %d, %d, %v, want %d, %d", h.at, who, times, ok, h.who, h.times)
		}
	}
	if got := l.Held(); !slices.Equal(got, addresses) {
		t.Errorf("Held = %d, want %d", got, addresses)
	}
	for _, who := range []int{math.MinInt, -1, 0, 1, 2, 3, 4, 7, 8, math.MaxInt} {
		if n := l.Of(who); n != many[who] {
			t.Errorf("Of(%d) = %d, want %d", who, n, many[who])
		}
	}
	for _, at := range []int64{math.MinInt64, -1, 0, 1, 2, 3, 4, 5, 6, 7, 8, 9, 4096, math.MaxInt64} {
		if who, times, ok := l.Owner(at); !slices.Contains(addresses, at) && (who != 0 || times != 0 || ok) {
			t.Errorf("Owner(%d) = %d, %d, %v, where nobody holds it", at, who, times, ok)
		}
	}
}

// does holds which error is answered.
func does(t testing.TB, what string, e, want api.Errno) {
	t.Helper()
	if e != want {
		t.Errorf("%s: error %d, want %d", what, e, want)
	}
}

// made answers that these things are held.
func made(t testing.TB, l ...held) *lock.Locks {
	t.Helper()
	x := lock.New()
	for _, h := range l {
		for range h.times {
			does(t, "Enter", x.Enter(h.at, h.who), api.OK)
		}
	}
	are(t, x, l...)
	return x
}

// The chapter's example.
func TestExample(t *testing.T) {
	l := lock.New()
	does(t, "Enter(5, 1)", l.Enter(5, 1), api.OK)
	does(t, "Enter(5, 1)", l.Enter(5, 1), api.OK)
	does(t, "Enter(5, 2)", l.Enter(5, 2), api.ErrWait)
	does(t, "Exit(5, 1)", l.Exit(5, 1), api.OK)
	if who, times, ok := l.Owner(5); who != 1 || times != 1 || !ok {
		t.Errorf("Owner(5) = %d, %d, %v", who, times, ok)
	}
}

// P16.1: addresses of things, and none; any number is a thread.
func TestEnter(t *testing.T) {
	for _, x := range []struct {
		at   int64
		want api.Errno
	}{
		{math.MinInt64, api.ErrArg},
		{-5, api.ErrArg},
		{-1, api.ErrArg},
		{0, api.ErrArg},
		{1, api.OK},
		{2, api.OK},
		{4096, api.OK},
		{1<<32 + 5, api.OK},
		{math.MaxInt64, api.OK},
	} {
		for _, who := range []int{math.MinInt, -1, 0, 1, 7, 8, math.MaxInt} {
			l := made(t, held{5, 3, 1})
			does(t, "Enter", l.Enter(x.at, who), x.want)
			if x.want != api.OK {
				are(t, l, held{5, 3, 1})
				continue
			}
			are(t, l, held{5, 3, 1}, held{x.at, who, 1})
			for _, other := range []int{math.MinInt, -1, 0, 1, 7, 8, math.MaxInt} {
				if other != who {
					does(t, "Enter of another one", l.Enter(x.at, other), api.ErrWait)
					does(t, "Exit of another one", l.Exit(x.at, other), api.ErrThrow)
				}
			}
			are(t, l, held{5, 3, 1}, held{x.at, who, 1})
		}
	}
}

// P16.1: who does not hold it can not exit.
func TestExit(t *testing.T) {
	l := made(t, held{5, 1, 2}, held{6, 2, 1})
	for _, at := range []int64{math.MinInt64, -5, -1, 0, 1, 4, 7, math.MaxInt64} {
		for who := range 4 {
			does(t, "Exit of what is not held", l.Exit(at, who), api.ErrThrow)
		}
	}
	for _, who := range []int{math.MinInt, -1, 0, 2, 3, math.MaxInt} {
		does(t, "Exit of what another one holds", l.Exit(5, who), api.ErrThrow)
	}
	are(t, l, held{5, 1, 2}, held{6, 2, 1})
	does(t, "Exit(5, 1)", l.Exit(5, 1), api.OK)
	are(t, l, held{5, 1, 1}, held{6, 2, 1})
	does(t, "Exit(5, 1)", l.Exit(5, 1), api.OK)
	are(t, l, held{6, 2, 1})
	does(t, "Exit once more", l.Exit(5, 1), api.ErrThrow)
	does(t, "Exit(6, 2)", l.Exit(6, 2), api.OK)
	are(t, l)
	does(t, "Exit once more", l.Exit(6, 2), api.ErrThrow)
}

// P16.3: as often as a thread entered it must exit; in between no other one enters.
func TestAsOften(t *testing.T) {
	for _, n := range []int{1, 2, 3, 33, 300} {
		l := lock.New()
		for i := range n {
			does(t, "Enter", l.Enter(5, 0), api.OK)
			does(t, "Enter of another one", l.Enter(5, 1), api.ErrWait)
			are(t, l, held{5, 0, i + 1})
		}
		for i := range n {
			does(t, "Enter of another one", l.Enter(5, 1), api.ErrWait)
			are(t, l, held{5, 0, n - i})
			does(t, "Exit", l.Exit(5, 0), api.OK)
		}
		are(t, l)
		does(t, "Exit once more", l.Exit(5, 0), api.ErrThrow)
		does(t, "Enter of another one", l.Enter(5, 1), api.OK)
		are(t, l, held{5, 1, 1})
		does(t, "Enter", l.Enter(5, 0), api.ErrWait)
	}
}

// P16.2: the order is the one in which things came to be held, not the one of addresses; entered once more they stay where they are.
func TestHeld(t *testing.T) {
	l := made(t, held{9, 2, 1}, held{3, 1, 1}, held{7, 2, 2}, held{1, 1, 1})
	does(t, "Enter(9, 2)", l.Enter(9, 2), api.OK)
	does(t, "Enter(7, 1)", l.Enter(7, 1), api.ErrWait)
	are(t, l, held{9, 2, 2}, held{3, 1, 1}, held{7, 2, 2}, held{1, 1, 1})
	does(t, "Exit(3, 1)", l.Exit(3, 1), api.OK)
	does(t, "Exit(9, 2)", l.Exit(9, 2), api.OK)
	are(t, l, held{9, 2, 1}, held{7, 2, 2}, held{1, 1, 1})
	does(t, "Enter(3, 4)", l.Enter(3, 4), api.OK)
	are(t, l, held{9, 2, 1}, held{7, 2, 2}, held{1, 1, 1}, held{3, 4, 1})
	does(t, "Exit(9, 2)", l.Exit(9, 2), api.OK)
	does(t, "Enter(9, 2)", l.Enter(9, 2), api.OK)
	are(t, l, held{7, 2, 2}, held{1, 1, 1}, held{3, 4, 1}, held{9, 2, 1})
}

// P16.2: just as many addresses, none of which is twice; each thing has the one that stands at its place.
func TestPut(t *testing.T) {
	for _, x := range []struct {
		now  []int64
		want api.Errno
	}{
		{[]int64{1, 2, 3}, api.OK},
		{[]int64{3, 2, 1}, api.OK},
		{[]int64{7, 9, 3}, api.OK},
		{[]int64{9, 3, 7}, api.OK},
		{[]int64{4, 9, 3}, api.OK},
		{[]int64{math.MaxInt64, 1, math.MaxInt64 - 1}, api.OK},
		{nil, api.ErrArg},
		{[]int64{1, 2}, api.ErrArg},
		{[]int64{9, 3, 7, 1}, api.ErrArg},
		{[]int64{0, 1, 2}, api.ErrArg},
		{[]int64{1, 0, 2}, api.ErrArg},
		{[]int64{1, 2, 0}, api.ErrArg},
		{[]int64{1, 2, -1}, api.ErrArg},
		{[]int64{math.MinInt64, 1, 2}, api.ErrArg},
		{[]int64{1, 1, 2}, api.ErrArg},
		{[]int64{1, 2, 1}, api.ErrArg},
		{[]int64{2, 1, 1}, api.ErrArg},
		{[]int64{5, 5, 5}, api.ErrArg},
		{[]int64{math.MaxInt64, 4, math.MaxInt64}, api.ErrArg},
	} {
		before := []held{{9, 2, 1}, {3, 1, 3}, {7, 2, 2}}
		l := made(t, before...)
		now := slices.Clone(x.now)
		does(t, "Put", l.Put(now...), x.want)
		if !slices.Equal(now, x.now) {
			t.Errorf("Put has changed what is handed in: %d, want %d", now, x.now)
		}
		clear(now)
		if x.want != api.OK {
			are(t, l, before...)
			continue
		}
		want := slices.Clone(before)
		for i, at := range x.now {
			want[i].at = at
		}
		are(t, l, want...)
		// By these addresses they are held from now on.
		does(t, "Enter", l.Enter(x.now[1], 2), api.ErrWait)
		does(t, "Exit", l.Exit(x.now[1], 1), api.OK)
		does(t, "Exit", l.Exit(x.now[0], 2), api.OK)
		are(t, l, held{x.now[1], 1, 2}, want[2])
	}
}

// P16.2: what a thread holds is not held any more, however often it entered; nothing else is others.
func TestFree(t *testing.T) {
	for _, x := range []struct {
		who, many int
		left      []held
	}{
		{1, 2, []held{{9, 2, 1}, {7, 2, 2}, {4, 0, 1}}},
		{2, 2, []held{{3, 1, 3}, {1, 1, 1}, {4, 0, 1}}},
		{0, 1, []held{{9, 2, 1}, {3, 1, 3}, {7, 2, 2}, {1, 1, 1}}},
		{3, 0, []held{{9, 2, 1}, {3, 1, 3}, {7, 2, 2}, {1, 1, 1}, {4, 0, 1}}},
		{math.MinInt, 0, []held{{9, 2, 1}, {3, 1, 3}, {7, 2, 2}, {1, 1, 1}, {4, 0, 1}}},
	} {
		l := made(t, held{9, 2, 1}, held{3, 1, 3}, held{7, 2, 2}, held{1, 1, 1}, held{4, 0, 1})
		for _, want := range []int{x.many, 0} {
			if n := l.Free(x.who); n != want {
				t.Errorf("Free(%d) = %d, want %d", x.who, n, want)
			}
			are(t, l, x.left...)
		}
		does(t, "Exit behind Free", l.Exit(8, x.who), api.ErrThrow)
		does(t, "Enter behind Free", l.Enter(8, 4), api.OK)
		are(t, l, append(x.left, held{8, 4, 1})...)
	}
	l := made(t, held{2, 1, 1}, held{1, 1, 5})
	if n := l.Free(1); n != 2 {
		t.Errorf("Free(1) = %d, want 2", n)
	}
	are(t, l)
	does(t, "Enter behind Free", l.Enter(1, 2), api.OK)
	are(t, l, held{1, 2, 1})
}

// P16.1, P16.2: of nil; and where nothing is held.
func TestNothingHeld(t *testing.T) {
	for _, l := range []*lock.Locks{lock.New(), {}} {
		are(t, l)
		does(t, "Put of none", l.Put(), api.OK)
		does(t, "Put of one", l.Put(1), api.ErrArg)
		does(t, "Exit", l.Exit(1, 0), api.ErrThrow)
		if n := l.Free(0); n != 0 {
			t.Errorf("Free(0) = %d", n)
		}
		are(t, l)
		does(t, "Enter", l.Enter(1, 0), api.OK)
		are(t, l, held{1, 0, 1})
	}
	var l *lock.Locks
	are(t, l)
	for _, at := range []int64{-1, 0, 1} {
		does(t, "Enter of nil", l.Enter(at, 0), api.ErrNil)
		does(t, "Exit of nil", l.Exit(at, 0), api.ErrNil)
		does(t, "Put to nil", l.Put(at), api.ErrNil)
	}
	does(t, "Put of none to nil", l.Put(), api.ErrNil)
	if n := l.Free(0); n != 0 {
		t.Errorf("Free(0) of nil = %d", n)
	}
}

// Rule 4 of the document: what a caller writes into an answer is seen by no later one.
func TestListsOfTheirOwn(t *testing.T) {
	l := made(t, held{9, 2, 1}, held{3, 1, 1})
	earlier := l.Held()
	_ = append(l.Held()[:1], 8, 8, 8)
	clear(l.Held())
	are(t, l, held{9, 2, 1}, held{3, 1, 1})
	l.Put(6, 5)
	l.Free(2)
	if !slices.Equal(earlier, []int64{9, 3}) {
		t.Errorf("what was answered has come to be %d", earlier)
	}
	are(t, l, held{5, 1, 1})
}
