package maps

import (
	"understudy/api"
	"understudy/pool"
	"understudy/wire"
)

// reader reads the parts of maps one behind the other, and refuses what can't be where it is read.
type reader struct {
	*wire.Reader
	pool []api.Const
}

// number reads a number of size bytes.
func (r reader) number(size int) uint64 {
	n, e := r.Uint(size)
	if e != api.OK {
		panic(e)
	}
	return n
}

// short reads a number of two bytes.
func (r reader) short() int { return int(r.number(shortSize)) }

// place reads how many bytes behind from a place is.
func (r reader) place(from int) int {
	at := from + r.short()
	must(isPlace(at))
	return at
}

// kind reads what kind of type comes: of an array that of a class.
func (r reader) kind() int {
	n := r.number(byteSize)
	for k, tag := range tags {
		if tag == n {
			return k
		}
	}
	panic(api.ErrMaps)
}

// class reads the place of a class, and answers the type that its text tells.
func (r reader) class() api.Type {
	text, _ := pool.Class(r.pool, r.short())
	t, isType := Type(text) // where no class is the text is empty, which is no type's
	must(isType)
	return t
}

// oneType reads a type.
func (r reader) oneType() api.Type {
	t := api.Type{K: r.kind()}
	switch t.K {
	case api.KRef:
		t = r.class()
	case api.KNew:
		t.At = r.place(0)
	}
	return t
}

// types reads how many types come, and them.
func (r reader) types() []api.Type {
	n := r.short()
	must(n <= api.MaxSlots)
	var l []api.Type
	for range n {
		l = append(l, r.oneType())
	}
	return l
}

// frames makes what reads the next map each time that it is called.
func (r reader) frames() func() api.Map {
	from := 0 // what the step counts from: behind the first map it is one behind the place ahead
	return func() api.Map {
		must(r.number(byteSize) == mapByte)
		m := api.Map{At: r.place(from)}
		from = m.At + 1
		m.Frame.Locals = r.types()
		m.Frame.Stack = r.types()
		m.Frame.Fresh = isFresh(m.Frame.Locals)
		return m
	}
}

// all reads how many maps come, and them: nothing may be left then.
func (r reader) all() []api.Map {
	var l []api.Map
	next := r.frames()
	for range r.short() {
		l = append(l, next())
	}
	must(r.Left() == 0)
	return l
}

// Decode answers the maps of the bytes b of a class with the pool p.
func Decode(p []api.Const, b []byte) ([]api.Map, api.Errno) {
	if len(b) == 0 {
		return nil, api.OK
	}
	return unlessRefused(reader{wire.NewReader(b), p}.all)
}
