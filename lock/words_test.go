package lock_test

import (
	"math"
	"math/rand/v2"
	"slices"
	"testing"

	"hornbook/api"
	"hornbook/lock"
)

// picker answers a number from 0 to below another one.
type picker func(below int) int

// entered is an Enter that no Exit was of yet.
type entered struct {
	at  int64
	who int
}

// model is locks by the words alone: all that was entered and not exited, in that order.
type model []entered

// held answers what is held.
func (m model) held() []held {
	var l []held
	for _, x := range m {
		i := slices.IndexFunc(l, func(h held) bool { return h.at == x.at })
		if i < 0 {
			l = append(l, held{x.at, x.who, 1})
		} else {
			l[i].times++
		}
	}
	return l
}

// owner answers who holds a thing; false, if nobody does.
func (m model) owner(at int64) (int, bool) {
	for _, x := range m {
		if x.at == at {
			return x.who, true
		}
	}
	return 0, false
}

// of answers how many things a thread holds.
func (m model) of(who int) int {
	n := 0
	for _, h := range m.held() {
		if h.who == who {
			n++
		}
	}
	return n
}

// address answers one that is small, or an edge.
func address(pick picker) int64 {
	edges := []int64{math.MinInt64, -1, 0, math.MaxInt64}
	if pick(12) == 0 {
		return edges[pick(len(edges))]
	}
	return 1 + int64(pick(9))
}

// world is locks, what they are by the words, and which errors came.
type world struct {
	*lock.Locks
	m    model
	pick picker
	came map[api.Errno]int
}

// did notes and holds which error is answered.
func (w *world) did(t testing.TB, what string, e, want api.Errno) {
	t.Helper()
	w.came[e]++
	does(t, what, e, want)
}

// act does one thing to the locks and to what they are by the words, and holds that the answers are alike.
func (w *world) act(t testing.TB) {
	t.Helper()
	at, who := address(w.pick), w.pick(4)-w.pick(9)/8
	owner, isHeld := w.m.owner(at)
	switch w.pick(12) {
	case 0, 1, 2, 3, 4:
		want := api.OK
		switch {
		case at < 1:
			want = api.ErrArg
		case isHeld && owner != who:
			want = api.ErrWait
		default:
			w.m = append(w.m, entered{at, who})
		}
		w.did(t, "Enter", w.Enter(at, who), want)
	case 5, 6, 7, 8, 9:
		want := api.ErrThrow
		if isHeld && owner == who {
			// The last one that was entered: the first one says since when it is held.
			last := len(w.m) - 1
			for w.m[last].at != at {
				last--
			}
			w.m, want = slices.Delete(w.m, last, last+1), api.OK
		}
		w.did(t, "Exit", w.Exit(at, who), want)
	case 10:
		w.put(t)
	default:
		n := w.m.of(who)
		w.m = slices.DeleteFunc(w.m, func(x entered) bool { return x.who == who })
		if got := w.Free(who); got != n {
			t.Errorf("Free(%d) = %d, want %d", who, got, n)
		}
	}
}

// put gives all things that are held other addresses.
func (w *world) put(t testing.TB) {
	t.Helper()
	before, want := w.m.held(), api.OK
	var now []int64
	for range max(0, len(before)+w.pick(9)/8-w.pick(9)/8) {
		at := address(w.pick)
		for at >= 1 && slices.Contains(now, at) && w.pick(20) > 0 {
			at++
		}
		if at < 1 || slices.Contains(now, at) {
			want = api.ErrArg
		}
		now = append(now, at)
	}
	if len(now) != len(before) {
		want = api.ErrArg
	}
	for i, x := range w.m {
		if want == api.OK {
			w.m[i].at = now[slices.IndexFunc(before, func(h held) bool { return h.at == x.at })]
		}
	}
	w.did(t, "Put", w.Put(now...), want)
}

// P16.1 to P16.4: whatever is done, one after another.
func TestRandomLocks(t *testing.T) {
	pick := rand.New(rand.NewPCG(8, 16)).IntN
	came, most := map[api.Errno]int{}, 0
	for range 200 {
		w := world{lock.New(), nil, pick, came}
		for range 100 {
			w.act(t)
			want := w.m.held()
			are(t, w.Locks, want...)
			most = max(most, len(want))
			if t.Failed() {
				t.Fatalf("of %v", w.m)
			}
		}
	}
	for _, e := range []api.Errno{api.OK, api.ErrArg, api.ErrWait, api.ErrThrow} {
		if came[e] < 300 {
			t.Errorf("error %d came just %d times", e, came[e])
		}
	}
	if most < 6 {
		t.Errorf("just %d things were held at most", most)
	}
}

// P16.4: what one thread does changes nothing of what others hold.
func TestWhatOthersHold(t *testing.T) {
	pick := rand.New(rand.NewPCG(8, 17)).IntN
	for range 2000 {
		w := world{lock.New(), nil, pick, map[api.Errno]int{}}
		for range 15 {
			w.act(t)
		}
		who, at := pick(4), address(pick)
		others := func() []held {
			var l []held
			for _, a := range w.Held() {
				if owner, times, _ := w.Owner(a); owner != who {
					l = append(l, held{a, owner, times})
				}
			}
			return l
		}
		before := others()
		switch pick(3) {
		case 0:
			w.Enter(at, who)
		case 1:
			w.Exit(at, who)
		default:
			w.Free(who)
		}
		if after := others(); !slices.Equal(after, before) {
			t.Fatalf("others hold %v, and held %v", after, before)
		}
	}
}

// P16.1 to P16.4: no call panics, and each answers what the words say.
func FuzzLocks(f *testing.F) {
	f.Add([]byte{1, 5, 1, 0, 0, 1, 5, 1, 0, 0, 1, 5, 2, 0, 0, 1, 5, 1, 0, 5})
	f.Add([]byte("any bytes at all, that pick what is done to locks, one after another"))
	f.Fuzz(func(t *testing.T, bytes []byte) {
		pick := func(below int) int {
			if len(bytes) == 0 {
				return 0
			}
			n := int(bytes[0]) % below
			bytes = bytes[1:]
			return n
		}
		w := world{lock.New(), nil, pick, map[api.Errno]int{}}
		for len(bytes) > 0 {
			w.act(t)
			are(t, w.Locks, w.m.held()...)
		}
	})
}
