package class

import (
	"understudy/api"
	"understudy/pool"
	"understudy/wire"
)

// writer writes the parts of a right class: nothing of them can be refused, and all of them have fewer than MaxFrame bytes.
type writer struct {
	*wire.Writer
	pool []api.Const
}

// newWriter makes an empty writer of a class with the pool p.
func newWriter(p []api.Const) writer {
	w, _ := wire.NewWriter(api.MaxFrame)
	return writer{w, p}
}

// shorts writes numbers in two bytes each.
func (w writer) shorts(numbers ...int) {
	for _, n := range numbers {
		w.Uint(shortSize, uint64(n))
	}
}

// list writes how many bytes there are, in four bytes, and them.
func (w writer) list(b []byte) {
	w.Uint(wideSize, uint64(len(b)))
	w.Bytes(b)
}

// head writes what stands ahead of the fields of c.
func (w writer) head(c api.Class) {
	w.Uint(wideSize, magic)
	w.Uint(wideSize, version)
	b, _ := pool.Encode(c.Pool)
	w.Bytes(b)
	w.shorts(0, c.This, c.Super, 0)
}

// fields writes the fields l.
func (w writer) fields(l []api.Field) {
	w.shorts(len(l))
	for _, f := range l {
		w.shorts(f.Flags, f.Name, f.Desc, 0)
	}
}

// code writes what stands behind the number of bytes of the method m's code.
func (w writer) code(m api.Method) {
	w.shorts(m.Stack, m.Locals)
	w.list(m.Code)
	w.shorts(len(m.Traps))
	for _, t := range m.Traps {
		w.shorts(t.From, t.To, t.Handler, t.Type)
	}
	if len(m.Maps) == 0 {
		w.shorts(0)
		return
	}
	w.shorts(1, placeOf(w.pool, mapsText))
	w.list(m.Maps)
}

// methods writes the methods l.
func (w writer) methods(l []api.Method) {
	w.shorts(len(l))
	for _, m := range l {
		w.shorts(m.Flags, m.Name, m.Desc, 1, placeOf(w.pool, codeText))
		code := newWriter(w.pool) // apart, as its number of bytes stands ahead of it
		code.code(m)
		w.list(code.Out())
	}
}

// Encode answers the bytes of the class c.
func Encode(c api.Class) ([]byte, api.Errno) {
	if e := Check(c); e != api.OK {
		return nil, e
	}
	w := newWriter(c.Pool)
	w.head(c)
	w.fields(c.Fields)
	w.methods(c.Methods)
	w.shorts(0)
	return w.Out(), api.OK
}
