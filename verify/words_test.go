package verify_test

import (
	"math/rand/v2"
	"reflect"
	"slices"
	"strconv"
	"testing"

	"hornbook/api"
	"hornbook/desc"
	"hornbook/hier"
	"hornbook/ins"
	"hornbook/kind"
	"hornbook/table"
	"hornbook/verify"
)

// model works out anew what holds in T's method m, by the chapter's words alone: what is asked next is picked at will.
type model struct {
	t     *table.Table
	m     api.Method
	gives string
	holds map[int]kind.Frame
}

// follow tells whether an instruction is stuck, and what holds is changed by what comes from it.
func (m *model) follow(at int) (bool, bool) {
	ahead := m.holds[at]
	left, e := kind.Step(m.t, constants(), m.gives, m.m.Code[at], ahead)
	if e != api.OK {
		return true, false
	}
	stuck, changed := false, false
	come := func(to int, f kind.Frame) {
		if to >= len(m.m.Code) {
			stuck = true
			return
		}
		if old, ok := m.holds[to]; ok {
			both, e := kind.Join(m.t.Hier(), old, f)
			if e != api.OK {
				stuck = true
				return
			}
			f = both
			if kind.Same(f, old) {
				return
			}
		}
		m.holds[to] = f
		changed = true
	}
	for _, h := range m.m.Hand {
		if h.From <= at && at < h.To {
			come(h.At, kind.Frame{Locals: ahead.Locals, Stack: []string{"L" + h.Class + ";"}})
		}
	}
	for _, to := range ins.Next(m.m.Code, at) {
		come(to, left)
	}
	return stuck, changed
}

// modelOf answers what holds in the end, and whether the method can be run.
func modelOf(t *table.Table, m api.Method, pick *rand.Rand) (verify.Report, bool) {
	start, e := kind.Start("T", m)
	if e != api.OK {
		return verify.Report{}, false
	}
	gives, _, _ := desc.Split(m.Sig)
	x := &model{t, m, gives, map[int]kind.Frame{0: start}}
	stuck := true
	for changed := true; changed; {
		changed, stuck = false, false
		for _, at := range pick.Perm(len(m.Code)) {
			if _, ok := x.holds[at]; ok {
				s, c := x.follow(at)
				stuck, changed = stuck || s, changed || c
			}
		}
	}
	r := verify.Report{Seen: make([]bool, len(m.Code)), At: make([]kind.Frame, len(m.Code))}
	for at, f := range x.holds {
		r.Seen[at], r.At[at] = true, f
	}
	for _, h := range m.Hand {
		if !t.Hier().Sub(desc.Of(h.Class), "LExc;") {
			stuck = true
		}
	}
	return r, !stuck
}

// holdMethod holds what the chapter says of a method, and answers whether it can be run.
func holdMethod(t *testing.T, x *table.Table, m api.Method, pick *rand.Rand) bool {
	t.Helper()
	want, can := modelOf(x, m, pick)
	r, e := verify.Method(x, "T", "m")
	switch {
	case !can && (e != api.ErrVerify || !none(r)):
		t.Errorf("%v can be run: %s, error %d", m, show(r), e)
	case can && (e != api.OK || show(r) != show(want) || !slices.Equal(r.Seen, want.Seen)):
		t.Errorf("%v: %s, error %d, want %s", m, show(r), e, show(want))
	case can:
		holdFlow(t, x, m, r)
	}
	class, name, e := verify.All(x)
	if can && (class != "" || name != "" || e != api.OK) || !can && (class != "T" || name != "m" || e != api.ErrVerify) {
		t.Errorf("%v: All = %q, %q, error %d", m, class, name, e)
	}
	deep := 0
	for at, f := range r.At {
		deep = max(deep, len(f.Stack))
		l, s := verify.Maps(r, at)
		wantL, wantS := kind.Refs(f)
		if !slices.Equal(l, wantL) || !slices.Equal(s, wantS) {
			t.Errorf("%v: Maps(%d) = %v, %v of %q", m, at, l, s, f)
		}
	}
	if verify.Deep(r) != deep {
		t.Errorf("%v: Deep = %d, want %d", m, verify.Deep(r), deep)
	}
	return can
}

// fit tells whether each type of one frame fits that of another one at its place; what can not be used is fitted by all.
func fit(h *hier.Hier, a, b kind.Frame) bool {
	if len(a.Locals) != len(b.Locals) || len(a.Stack) != len(b.Stack) {
		return false
	}
	for i, d := range b.Locals {
		if d != "" && !h.Sub(a.Locals[i], d) {
			return false
		}
	}
	for i, d := range b.Stack {
		if !h.Sub(a.Stack[i], d) {
			return false
		}
	}
	return true
}

// holdFlow holds P10.3 of a Report.
func holdFlow(t *testing.T, x *table.Table, m api.Method, r verify.Report) {
	t.Helper()
	h := x.Hier()
	start, _ := kind.Start("T", m)
	gives, _, _ := desc.Split(m.Sig)
	if !r.Seen[0] || !fit(h, start, r.At[0]) {
		t.Errorf("%v: %q does not fit %q", m, start, r.At[0])
	}
	for at, i := range m.Code {
		if !r.Seen[at] {
			continue
		}
		left, e := kind.Step(x, constants(), gives, i, r.At[at])
		if e != api.OK {
			t.Errorf("%v: %d is stuck: %q", m, at, r.At[at])
			continue
		}
		for _, to := range ins.Next(m.Code, at) {
			if to >= len(m.Code) || !r.Seen[to] || !fit(h, left, r.At[to]) {
				t.Errorf("%v: what %d leaves, %q, does not fit what holds at %d", m, at, left, to)
			}
		}
		for _, c := range m.Hand {
			if f := (kind.Frame{Locals: r.At[at].Locals, Stack: []string{desc.Of(c.Class)}}); c.From <= at && at < c.To && (!r.Seen[c.At] || !fit(h, f, r.At[c.At])) {
				t.Errorf("%v: what is thrown at %d, %q, does not fit what holds at %d", m, at, f, c.At)
			}
		}
	}
}

// randomMethod answers code most of whose instructions can be behind those ahead, with jumps and handlers.
func randomMethod(x *table.Table, pick *rand.Rand) api.Method {
	m := api.Method{Name: "m", Sig: []string{"()V", "(I)V", "(LA;[I)V", "(B)I"}[pick.IntN(4)], Locals: 4 + pick.IntN(2)}
	f, _ := kind.Start("T", m)
	gives, _, _ := desc.Split(m.Sig)
	n := 3 + pick.IntN(14)
	for len(m.Code) < n {
		i := randomIns(n+1, m.Locals, pick)
		if pick.IntN(4) == 0 && len(f.Stack) > 0 {
			i = api.Ins{Op: []int{api.Pop, api.Store, api.Enter, api.Print}[pick.IntN(4)]}
			if i.Op == api.Store {
				i.A = 1 + pick.IntN(m.Locals-1)
			}
		}
		if pick.IntN(5) == 0 {
			m.Code = append(m.Code, api.Ins{Op: api.True})
			i = api.Ins{Op: api.JumpT + pick.IntN(2), A: pick.IntN(n)}
			f.Stack = append(f.Stack, "B")
		}
		if g, e := kind.Step(x, constants(), gives, i, f); e == api.OK || pick.IntN(60) == 0 {
			m.Code = append(m.Code, i)
			if e == api.OK {
				f = g
			}
		}
	}
	switch pick.IntN(8) {
	case 0:
		m.Code = append(m.Code, api.Ins{Op: api.Jump, A: pick.IntN(n)})
	default:
		if gives == "I" {
			m.Code = append(m.Code, api.Ins{Op: api.Int})
		}
		m.Code = append(m.Code, api.Ins{Op: map[string]int{"V": api.RetV, "I": api.Ret}[gives]})
	}
	for range pick.IntN(3) {
		// What is thrown goes to a Throw behind the end, most of the time.
		from := pick.IntN(len(m.Code))
		h := api.Hand{From: from, To: from + 1 + pick.IntN(len(m.Code)-from), Class: []string{"Exc", "DivExc", "MemExc", "Exc", "DivExc", "MemExc", "A", "Z"}[pick.IntN(8)]}
		if pick.IntN(4) == 0 {
			h.At = pick.IntN(len(m.Code))
		} else {
			h.At = len(m.Code)
			m.Code = append(m.Code, api.Ins{Op: []int{api.Throw, api.Pop}[pick.IntN(2)]}, api.Ins{Op: map[string]int{"V": api.RetV, "I": api.Throw}[gives]})
		}
		m.Hand = append(m.Hand, h)
	}
	return m
}

// randomIns answers an instruction that can be among these constants.
func randomIns(many, locals int, pick *rand.Rand) api.Ins {
	for {
		i := api.Ins{Op: pick.IntN(api.Old), A: pick.IntN(max(many, len(constants())))}
		if ins.Kind(i.Op) == ins.Plain {
			i.A = 0
		}
		if _, e := ins.Check(append([]api.Ins{i}, make([]api.Ins, many-1)...), constants(), locals); e == api.OK {
			return i
		}
	}
}

// P10.1 to P10.3: of many methods, whatever is asked next.
func TestRandomMethods(t *testing.T) {
	pick := rand.New(rand.NewPCG(9, 10))
	empty := made(t, classes(method(t, "()V", 1, "retv"))...)
	can, loops, joins, caught := 0, 0, 0, 0
	const all = 6000
	for range all {
		m := randomMethod(empty, pick)
		x := made(t, classes(m)...)
		if holdMethod(t, x, m, pick) {
			can++
			r, _ := verify.Method(x, "T", "m")
			for at := range m.Code {
				if r.Seen[at] && ins.Back(m.Code, at) {
					loops++
				}
				if r.Seen[at] && slices.Contains(r.At[at].Locals[1:], "") {
					joins++
				}
			}
			if len(m.Hand) > 0 {
				caught++
			}
		}
		if t.Failed() {
			t.FailNow()
		}
	}
	if can < all/10 || can > all*9/10 || loops < 100 || joins < 100 || caught < 100 {
		t.Errorf("%d of %d can be run; %d loops, %d joins, %d with handlers", can, all, loops, joins, caught)
	}
}

// P10.4: what nothing comes to, behind the end, changes nothing.
func TestMoreBehindTheEnd(t *testing.T) {
	pick := rand.New(rand.NewPCG(4, 4))
	empty := made(t, classes(method(t, "()V", 1, "retv"))...)
	held := 0
	for range 2000 {
		m := randomMethod(empty, pick)
		r, e := verify.Method(made(t, classes(m)...), "T", "m")
		if e != api.OK {
			continue
		}
		held++
		many := len(m.Code) + 1 + pick.IntN(20)
		more := m
		more.Code = slices.Clone(m.Code)
		for len(more.Code) < many {
			more.Code = append(more.Code, randomIns(many, m.Locals, pick))
		}
		got, e := verify.Method(made(t, classes(more)...), "T", "m")
		want := verify.Report{Seen: append(r.Seen, make([]bool, many-len(r.Seen))...), At: append(r.At, make([]kind.Frame, many-len(r.At))...)}
		if e != api.OK || show(got) != show(want) || !slices.Equal(got.Seen, want.Seen) {
			t.Fatalf("%v with more behind it: %s, error %d, want %s", m, show(got), e, show(want))
		}
	}
	if held < 200 {
		t.Errorf("only %d were held", held)
	}
}

// P10.5: classes of which it does not speak change nothing, wherever they stand.
func TestMoreClasses(t *testing.T) {
	pick := rand.New(rand.NewPCG(5, 5))
	empty := made(t, classes(method(t, "()V", 1, "retv"))...)
	for range 1000 {
		m := randomMethod(empty, pick)
		l := classes(m)
		r, e := verify.Method(made(t, l...), "T", "m")
		above := []string{"Object", "A", "B", "C", "T", "Exc", "MemExc"}
		for i := range 28 {
			c := api.Class{Name: "new" + strconv.Itoa(i), Super: above[pick.IntN(len(above))]}
			if pick.IntN(2) == 0 {
				c.Methods = []api.Method{{Name: "own" + strconv.Itoa(i), Sig: "()V", Locals: 1, Code: []api.Ins{{Op: api.Pop}}}}
			}
			above = append(above, c.Name)
			l = slices.Insert(l, pick.IntN(len(l)+1), c)
		}
		got, f := verify.Method(made(t, l...), "T", "m")
		if e != f || !reflect.DeepEqual(got, r) {
			t.Fatalf("%v: %s, error %d, among more classes %s, error %d", m, show(r), e, show(got), f)
		}
	}
}

// P10.1, and rule 1 of the document: it ends, also where types climb as slowly as they can.
func TestMethodThatTakesLong(t *testing.T) {
	var l []api.Class
	for i := range 31 {
		l = append(l, api.Class{Name: "c" + strconv.Itoa(i), Super: "c" + strconv.Itoa(i+1)})
	}
	l[30].Super = "Object"
	c := api.Class{Name: "T", Super: "Object"}
	var code []api.Ins
	for i := range 31 {
		c.Consts = append(c.Consts, api.Const{Kind: api.CType, S: "Lc" + strconv.Itoa(i) + ";"})
	}
	for i := range 22 {
		code = append(code, api.Ins{Op: api.New}, api.Ins{Op: api.Store, A: i + 1})
	}
	// Each way round the loop a higher class comes into the first local, and each local's goes to the next one.
	loop := len(code)
	for i := 22; i > 1; i-- {
		code = append(code, api.Ins{Op: api.Load, A: i - 1}, api.Ins{Op: api.Store, A: i})
	}
	for i := range 31 {
		code = append(code, api.Ins{Op: api.True}, api.Ins{Op: api.JumpT, A: len(code) + 5}, api.Ins{Op: api.New, A: i}, api.Ins{Op: api.Store, A: 1}, api.Ins{Op: api.Jump, A: loop})
	}
	code = append(code, api.Ins{Op: api.RetV})
	c.Methods = []api.Method{{Name: "m", Sig: "()V", Locals: 24, Code: code}}
	r, e := verify.Method(made(t, append(l, c)...), "T", "m")
	if last := r.At[len(code)-1].Locals; e != api.OK || last[1] != "Lc30;" || last[22] != "Lc30;" || last[23] != "" {
		t.Errorf("error %d, in the end %q", e, last)
	}
}

// P10.1: no code makes a call panic, or hold otherwise than the words say.
func FuzzMethod(f *testing.F) {
	f.Add([]byte{5, 0, 7, 1, 6, 1, 34, 0}, []byte{0, 1, 2, 0}, byte(0))
	f.Add([]byte{3, 0, 23, 5, 1, 0, 28, 3, 22, 6, 5, 0, 1, 0, 29, 0, 8, 0, 34, 0}, []byte{}, byte(1))
	f.Fuzz(func(t *testing.T, bytes, hands []byte, sig byte) {
		m := api.Method{Name: "m", Sig: []string{"()V", "(I)V", "(LA;[I)V", "(B)I", "()S"}[int(sig)%5], Locals: 5}
		for i := 0; i+1 < len(bytes) && len(m.Code) < api.MaxCode; i += 2 {
			m.Code = append(m.Code, api.Ins{Op: int(bytes[i]) % api.Old, A: int(bytes[i+1])})
		}
		for i := 0; i+3 < len(hands) && len(m.Hand) < api.MaxHand; i += 4 {
			class := []string{"Exc", "DivExc", "MemExc", "A", "Z"}[int(hands[i+3])%5]
			m.Hand = append(m.Hand, api.Hand{From: int(hands[i]), To: int(hands[i+1]), At: int(hands[i+2]), Class: class})
		}
		x, _, e := table.New(classes(m)...)
		if e != api.OK {
			return
		}
		holdMethod(t, x, m, rand.New(rand.NewPCG(1, 2)))
	})
}
