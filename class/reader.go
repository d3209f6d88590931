package class

import (
	"understudy/api"
	"understudy/pool"
	"understudy/wire"
)

// reader reads the parts of a class file one behind the other, and refuses what can't be where it is read.
type reader struct {
	*wire.Reader
	whole []byte // the file, as the pool is read from its bytes by package pool
	class api.Class
}

// newReader makes a reader of the class file b. No class file has MaxFrame bytes: where there are more, enough are read to see that some are left.
func newReader(b []byte) *reader {
	b = b[:min(api.MaxFrame, len(b))]
	return &reader{Reader: wire.NewReader(b), whole: b}
}

// number reads a number of size bytes.
func (r *reader) number(size int) uint64 {
	n, e := r.Uint(size)
	refuse(e)
	return n
}

// short reads a number of two bytes.
func (r *reader) short() int { return int(r.number(shortSize)) }

// fixed reads a number of size bytes that can't be any but want.
func (r *reader) fixed(size int, want uint64) { must(r.number(size) == want) }

// count reads a number of size bytes that tells how many come: no more than most.
func (r *reader) count(size, most int) int {
	n := r.number(size)
	if n > uint64(most) {
		refuse(api.ErrLong)
	}
	return int(n)
}

// members reads how many fields, methods or traps come.
func (r *reader) members() int { return r.count(shortSize, api.MaxMembers) }

// list reads n bytes.
func (r *reader) list(n int) []byte {
	b, e := r.Bytes(n)
	refuse(e)
	return b
}

// text reads a place that must lead to the text want.
func (r *reader) text(want string) {
	s, _ := pool.Text(r.class.Pool, r.short())
	must(s == want)
}

// head reads the bytes that each class file begins with.
func (r *reader) head() {
	r.fixed(wideSize, magic)
	r.fixed(wideSize, version)
}

// constants reads the pool.
func (r *reader) constants() {
	p, n, e := pool.Decode(r.whole[r.At():])
	refuse(e)
	r.class.Pool = p
	r.list(n)
}

// names reads the places of the class's name and of the one above it.
func (r *reader) names() {
	r.fixed(shortSize, 0)
	r.class.This, r.class.Super = r.short(), r.short()
	r.fixed(shortSize, 0)
}

// fields reads all fields.
func (r *reader) fields() {
	for range r.members() {
		f := api.Field{Flags: r.short(), Name: r.short(), Desc: r.short()}
		r.fixed(shortSize, 0)
		r.class.Fields = append(r.class.Fields, f)
	}
}

// methods reads all methods.
func (r *reader) methods() {
	for range r.members() {
		m := api.Method{Flags: r.short(), Name: r.short(), Desc: r.short()}
		r.fixed(shortSize, 1)
		r.text(codeText)
		size := r.number(wideSize)
		from := r.At()
		r.code(&m)
		must(uint64(r.At()-from) == size)
		r.class.Methods = append(r.class.Methods, m)
	}
}

// code reads what stands behind the number of bytes of the method m's code.
func (r *reader) code(m *api.Method) {
	m.Stack, m.Locals = r.short(), r.short()
	m.Code = r.list(r.count(wideSize, api.MaxCode))
	for range r.members() {
		m.Traps = append(m.Traps, api.Trap{From: r.short(), To: r.short(), Handler: r.short(), Type: r.short()})
	}
	switch r.short() {
	case 0:
	case 1:
		r.text(mapsText)
		n := r.count(wideSize, api.MaxCode)
		must(n > 0) // who has no maps tells so by the 0 above
		m.Maps = r.list(n)
	default:
		refuse(api.ErrClass)
	}
}

// end reads what stands behind the methods: nothing may be left then.
func (r *reader) end() {
	r.fixed(shortSize, 0)
	must(r.Left() == 0)
}

// all reads a class file, and checks it as a whole when all of it is read.
func (r *reader) all() {
	for _, read := range []func(){r.head, r.constants, r.names, r.fields, r.methods, r.end} {
		read()
	}
	check(r.class)
}

// Decode answers the class of the class file b.
func Decode(b []byte) (api.Class, api.Errno) {
	r := newReader(b)
	if e := refusalOf(r.all); e != api.OK {
		return api.Class{}, e
	}
	return r.class, api.OK
}
