package collect_test

import (
	"math/rand/v2"
	"slices"
	"strings"
	"testing"

	"hornbook/api"
	"hornbook/collect"
	"hornbook/heap"
	"hornbook/link"
)

// thing is a thing by its words alone: its type, and what is behind its first word.
type thing struct {
	d     string
	words []int64
}

// things answers all things of a heap by its words alone.
func things(w world) map[int64]thing {
	all := map[int64]thing{}
	raw := w.Raw()
	for at := 0; at < len(raw); {
		size := int(raw[at] & 65535)
		all[int64(at+1)] = thing{w.p.Name(int(raw[at] >> 16)), raw[at+1 : at+1+size]}
		at += 1 + size
	}
	return all
}

// refType tells whether a type is one of things, by chapter 2's words.
func refType(d string) bool {
	return d == "S" || strings.HasPrefix(d, "[") || strings.HasPrefix(d, "L")
}

// places works out anew which words of a thing are of things; false, if it can not be one.
func (x thing) places(p *link.Prog) ([]int, bool) {
	var l []int
	known := p.Table().Hier().Known(x.d)
	switch {
	case x.d == "S":
		return nil, true
	case !known || !refType(x.d):
		return nil, false
	case x.d[0] == '[':
		for i := range x.words {
			if i > 0 && refType(x.d[1:]) {
				l = append(l, i)
			}
		}
		return l, true
	}
	layout := p.Table().Layout(x.d[1 : len(x.d)-1])
	for i, f := range layout {
		if refType(f.Desc) {
			l = append(l, i)
		}
	}
	return l, len(layout) == len(x.words)
}

// met works out anew what can be come to: one round of things after another, each what those of the one ahead have.
func met(all map[int64]thing, p *link.Prog, roots []int64) ([]int64, api.Errno) {
	for _, at := range roots {
		if _, ok := all[at]; !ok && at != 0 {
			return nil, api.ErrRange
		}
	}
	var out []int64
	round := roots
	for {
		var fresh, next []int64
		for _, at := range round {
			if at != 0 && !slices.Contains(out, at) && !slices.Contains(fresh, at) {
				fresh = append(fresh, at)
			}
		}
		if len(fresh) == 0 {
			return out, api.OK
		}
		for _, at := range fresh {
			places, ok := all[at].places(p)
			if !ok {
				return nil, api.ErrForm
			}
			for _, i := range places {
				to := all[at].words[i]
				if _, ok := all[to]; !ok && to != 0 {
					return nil, api.ErrRange
				}
				next = append(next, to)
			}
		}
		out, round = append(out, fresh...), next
	}
}

// sizeOf answers how many words things have, their first ones too.
func sizeOf(all map[int64]thing, l []int64) int {
	n := 0
	for _, at := range l {
		n += 1 + len(all[at].words)
	}
	return n
}

// types are what the things of these tests are of: of many that there are, and of some that there are not.
func types() []string {
	return []string{"LA;", "LA;", "LB;", "LB;", "LD;", "LD;", "LC;", "[LA;", "[LA;", "[LObject;", "[[LB;", "S", "S", "[S", "[I", "[B", "LObject;"}
}

// picker picks numbers from 0 on to below another one.
type picker func(below int) int

// wordsOf answers how many words a thing of a type has.
func (w world) wordsOf(d string, pick picker) int {
	if x, ok := w.p.Shape(w.p.Id(d)); ok && x.Kind == link.Thing {
		return x.Size
	}
	return pick(6)
}

// grow makes things, and binds them to each other; one of wrongOf is of a type that can not be, or too great, or bound to what may be no thing (none, if that is 0).
func grow(w world, pick picker, many, wrongOf int) {
	wrong := func() bool { return wrongOf > 0 && pick(wrongOf) == 0 }
	all := types()
	for range many {
		d := all[pick(len(all))]
		size := w.wordsOf(d, pick)
		if wrong() {
			d = []string{"I", "LZ;", "N", "[LZ;", ""}[pick(5)]
		}
		if wrong() {
			size++
		}
		w.Thing(w.p.Id(d), size)
	}
	addresses, made := w.All(), things(w)
	for _, at := range addresses {
		x := made[at]
		places, _ := x.places(w.p)
		for i := range x.words {
			if slices.Contains(places, i) && !wrong() {
				w.Set(at, i, append(addresses, 0)[pick(len(addresses)+1)])
			} else {
				w.Set(at, i, int64(pick(w.Used()+3)-1))
			}
		}
	}
}

// holdRefs holds what P13.1 says of all addresses, and of some that are none.
func holdRefs(w world, all map[int64]thing) {
	w.t.Helper()
	for at := int64(-1); at <= int64(w.Used()+1); at++ {
		x, is := all[at]
		var want []int
		wantE := api.ErrRange
		if is {
			places, ok := x.places(w.p)
			want, wantE = nil, api.ErrForm
			if ok {
				want, wantE = places, api.OK
			}
		}
		if got, e := collect.Refs(w.Heap, w.p, at); !slices.Equal(got, want) || e != wantE {
			w.t.Errorf("Refs(%d) = %d, error %d, want %d, error %d", at, got, e, want, wantE)
		}
	}
}

// holdCopies holds what P13.2 and P13.4 say of the copies.
func holdCopies(w, g world, all map[int64]thing, order []int64) {
	w.t.Helper()
	to := map[int64]int64{}
	next := int64(1)
	for _, at := range order {
		to[at] = next
		next += int64(1 + len(all[at].words))
	}
	copies := things(g)
	if len(copies) != len(order) {
		w.t.Errorf("%d copies of %d things", len(copies), len(order))
	}
	for _, at := range order {
		x, y := all[at], copies[to[at]]
		want := slices.Clone(x.words)
		places, _ := x.places(w.p)
		for _, i := range places {
			want[i] = to[want[i]]
		}
		if y.d != x.d || !slices.Equal(y.words, want) {
			w.t.Errorf("the copy of %v is %v, want %d", x, y, want)
		}
	}
	for at := range all {
		if now, ok := w.Sent(at); ok != (to[at] != 0) || now != to[at] {
			w.t.Errorf("Sent(%d) = %d, %v, want %d", at, now, ok, to[at])
		}
	}
}

// holdRun holds what P13.2 to P13.4 say of a heap that is put together; it answers which error came.
func holdRun(w world, roots []int64) api.Errno {
	w.t.Helper()
	all, raw := things(w), w.Raw()
	order, want := met(all, w.p, roots)
	w.reaches(roots, order, want)
	if want != api.OK {
		w.live(0, want, roots...)
		w.refused(want, roots...)
		return want
	}
	n := sizeOf(all, order)
	w.live(n, api.OK, roots...)
	g, now := w.run(roots...)
	holdCopies(w, g, all, order)
	if !slices.Equal(w.Raw(), raw) || g.Used() != n || g.Cap() != w.Cap() || len(now) != len(roots) {
		w.t.Errorf("Run of %d: Used %d, want %d; now %d", roots, g.Used(), n, now)
		return api.OK
	}
	for i, at := range roots {
		if to, _ := w.Sent(at); now[i] != to {
			w.t.Errorf("the root %d is at %d, and sent to %d", at, now[i], to)
		}
	}
	if n > 0 {
		w.refused(api.ErrState, roots...)
	}
	k, again := g.run(now...)
	if !slices.Equal(k.Raw(), g.Raw()) || !slices.Equal(again, now) {
		w.t.Errorf("again: Raw %d, now %d, want %d, %d", k.Raw(), again, g.Raw(), now)
	}
	return api.OK
}

// holdMore holds P13.5: with more roots Live is not less.
func holdMore(w world, roots []int64) {
	w.t.Helper()
	last := 0
	for i := range len(roots) + 1 {
		n, e := collect.Live(w.Heap, w.p, roots[:i]...)
		if e != api.OK {
			return
		}
		if n < last || n > w.Used() {
			w.t.Errorf("Live of %d = %d, behind %d", roots[:i], n, last)
		}
		last = n
	}
}

// rootsOf picks some addresses; now and then one that is none.
func rootsOf(w world, pick picker, wrongOf int) []int64 {
	var l []int64
	addresses := w.All()
	for range pick(6) {
		switch {
		case wrongOf > 0 && pick(wrongOf) == 0:
			l = append(l, int64(pick(w.Used()+3)-1))
		case len(addresses) == 0 || pick(5) == 0:
			l = append(l, 0)
		default:
			l = append(l, addresses[pick(len(addresses))])
		}
	}
	return l
}

// P13.1 to P13.5: of many heaps, with what can be in them and with what can not.
func TestRandomHeaps(t *testing.T) {
	pick := rand.New(rand.NewPCG(7, 13)).IntN
	came, alive := map[api.Errno]int{}, 0
	p := progOf(t, classes()...)
	for round := range 1500 {
		w := world{heapOf(t, 16+pick(150)), t, p}
		wrongOf := []int{0, 60, 15}[round%3]
		grow(w, pick, 1+pick(25), wrongOf)
		holdRefs(w, things(w))
		roots := rootsOf(w, pick, wrongOf)
		holdMore(w, roots)
		raw := w.Raw()
		e := holdRun(w, roots)
		came[e]++
		for _, to := range sends(w.Heap) {
			if to > 1 {
				alive++
			}
		}
		if t.Failed() {
			t.Fatalf("of the roots %d in %d", roots, raw)
		}
		if wrongOf == 0 && e != api.OK {
			t.Fatalf("error %d of the roots %d in %d", e, roots, raw)
		}
	}
	if came[api.OK] < 600 || came[api.ErrRange] < 100 || came[api.ErrForm] < 100 || alive < 2500 {
		t.Errorf("errors %v came, %d things were copied", came, alive)
	}
}

// P13.2: a heap is put together over and over, while things are made in it; what can be come to is as it was.
func TestOverAndOver(t *testing.T) {
	pick := rand.New(rand.NewPCG(7, 14)).IntN
	w := made(t, 300)
	roots, full := []int64{0, 0, 0}, 0
	for range 400 {
		for range 3 {
			if at, e := w.Array(w.p.Id("[LObject;"), 3); e == api.OK {
				w.Set(at, 1+pick(3), roots[pick(3)])
				roots[pick(3)] = at
			}
		}
		if pick(8) == 0 {
			roots[pick(3)] = 0
		}
		if w.Used() < 280 && pick(4) > 0 {
			continue
		}
		n, _ := collect.Live(w.Heap, w.p, roots...)
		before := told(w, roots)
		w, roots = w.run(roots...)
		if after := told(w, roots); w.Used() != n || after != before {
			t.Fatalf("Used %d, want %d; told %q, want %q", w.Used(), n, after, before)
		}
		if n > 200 {
			full++
			roots = []int64{0, 0, 0}
		}
	}
	if full < 3 {
		t.Errorf("just %d times there was much to be copied", full)
	}
}

// told tells what can be come to from some addresses, and not where.
func told(w world, roots []int64) string {
	var s strings.Builder
	names := map[int64]byte{}
	var tell func(at int64)
	tell = func(at int64) {
		if at == 0 {
			s.WriteByte('-')
			return
		}
		if name, ok := names[at]; ok {
			s.Write([]byte{'=', name})
			return
		}
		names[at] = byte(len(names))
		s.WriteByte('(')
		for i := range 3 {
			v, _ := w.Get(at, 1+i)
			tell(v)
		}
		s.WriteByte(')')
	}
	for _, at := range roots {
		tell(at)
	}
	return s.String()
}

// P13.1 to P13.5: whatever a heap holds, no call panics, and each answers what the words say.
func FuzzRun(f *testing.F) {
	f.Add([]byte{3, 1, 2, 0, 4, 9}, uint8(20), int64(1), int64(0))
	f.Add([]byte{0, 0, 0, 7, 2, 8, 3, 1, 1, 1, 2, 3, 4, 5, 6, 7, 8, 9, 10, 0, 0, 0, 1, 2, 3}, uint8(60), int64(4), int64(1))
	f.Add([]byte("any bytes at all, that pick what there is"), uint8(90), int64(-1), int64(3))
	p := progOf(f, classes()...)
	f.Fuzz(func(t *testing.T, bytes []byte, words uint8, a, b int64) {
		pick := func(below int) int {
			if len(bytes) == 0 {
				return 0
			}
			n := int(bytes[0]) % below
			bytes = bytes[1:]
			return n
		}
		h, e := heap.New(int(words))
		if e != api.OK {
			return
		}
		w := world{h, t, p}
		many := len(bytes) / 4
		grow(w, pick, many, 1+pick(30))
		holdRefs(w, things(w))
		roots := append(rootsOf(w, pick, 9), a, b)
		holdMore(w, roots)
		holdRun(w, roots)
	})
}
