package exec

import (
	"hornbook/api"
	"hornbook/desc"
	"hornbook/hier"
)

// things does an instruction that makes a thing, or asks one.
func (w work) things() int {
	switch w.op.Op {
	case api.Str:
		return w.text(0, w.op.S)
	case api.Join:
		return w.join()
	case api.New:
		return w.fresh()
	case api.Arr:
		return w.arr()
	case api.GetF:
		return w.getF()
	case api.PutF:
		return w.putF()
	case api.ALoad:
		return w.aload()
	case api.AStore:
		return w.astore()
	case api.ALen, api.SLen:
		return w.size()
	case api.Cast, api.Is:
		return w.typed()
	}
	// Just Old is left, which stands in no method's code.
	return w.leave()
}

// made leaves a thing that was made in the place of so many values; these stay till it is, as all that can be come to stays.
func (w work) made(takes int, at int64, ok bool) int {
	if !ok {
		return w.fail(hier.Mem)
	}
	for range takes {
		w.pop()
	}
	return w.leave(at)
}

// fresh makes a thing of a class.
func (w work) fresh() int {
	class, _ := desc.Class(w.op.S)
	at, ok := w.thing(class)
	return w.made(0, at, ok)
}

// text makes a text, in the place of so many values.
func (w work) text(takes int, s string) int {
	id := w.prog.Types().Id(desc.Str)
	at, ok := w.create(func() (int64, api.Errno) { return w.heap.Text(id, s) })
	return w.made(takes, at, ok)
}

// join makes a text of two.
func (w work) join() int {
	a, b := w.peek(1), w.peek(0)
	if a == 0 || b == 0 {
		return w.fail(hier.Nil)
	}
	s, _ := w.heap.Bytes(a)
	t, _ := w.heap.Bytes(b)
	if len(s)+len(t) > api.MaxString {
		return w.fail(hier.Mem)
	}
	return w.text(2, s+t)
}

// arr makes an array of as many elements as is on top.
func (w work) arr() int {
	n := w.peek(0)
	if n < 0 || n > api.MaxArray {
		return w.fail(hier.Index)
	}
	id := w.prog.Types().Id(w.op.S)
	at, ok := w.create(func() (int64, api.Errno) { return w.heap.Array(id, int(n)) })
	return w.made(1, at, ok)
}

// getF leaves a thing's field.
func (w work) getF() int {
	at := w.pop()
	if at == 0 {
		return w.fail(hier.Nil)
	}
	v, _ := w.heap.Get(at, w.op.A)
	return w.leave(v)
}

// putF has a thing's field be the value on top.
func (w work) putF() int {
	v := w.pop()
	at := w.pop()
	if at == 0 {
		return w.fail(hier.Nil)
	}
	w.heap.Set(at, w.op.A, v)
	return w.leave()
}

// aload leaves an array's element.
func (w work) aload() int {
	word, exc := w.element()
	if exc != "" {
		return w.fail(exc)
	}
	v, _ := w.heap.Get(w.pop(), word)
	return w.leave(v)
}

// astore has an array's element be the value on top.
func (w work) astore() int {
	v := w.pop()
	word, exc := w.element()
	if exc != "" {
		return w.fail(exc)
	}
	w.heap.Set(w.pop(), word, v)
	return w.leave()
}

// element takes a place from the stack, and answers which word of the array that is on top then is the element there; or the class of what is thrown.
func (w work) element() (int, string) {
	place := w.pop()
	at := w.peek(0)
	if at == 0 {
		return 0, hier.Nil
	}
	n, _ := w.heap.Len(at)
	if place < 0 || place >= int64(n) {
		return 0, hier.Index
	}
	return 1 + int(place), ""
}

// size leaves how many elements an array has, or bytes a text.
func (w work) size() int {
	at := w.pop()
	if at == 0 {
		return w.fail(hier.Nil)
	}
	n, _ := w.heap.Len(at)
	return w.leave(int64(n))
}

// typed asks whether the type of the thing on top can stand for one.
func (w work) typed() int {
	at := w.pop()
	fits := w.prog.Sub(w.typeOf(at), w.op.S)
	switch {
	case w.op.Op == api.Is && fits:
		return w.leave(1)
	case w.op.Op == api.Is:
		return w.leave(0)
	case at == 0 || fits:
		return w.leave(at)
	}
	return w.fail(hier.Cast)
}
