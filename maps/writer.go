package maps

import (
	"understudy/api"
	"understudy/wire"
)

// writer writes the parts of right maps whose classes stand at the places: nothing of them can be refused.
type writer struct {
	*wire.Writer
	places places
}

// newWriter makes an empty writer.
func newWriter(c places) writer {
	w, _ := wire.NewWriter(api.MaxFrame)
	return writer{w, c}
}

// short writes a number in two bytes.
func (w writer) short(n int) { w.Uint(shortSize, uint64(n)) }

// types writes how many types there are, and them.
func (w writer) types(l []api.Type) {
	w.short(len(l))
	for _, t := range l {
		w.Uint(byteSize, tags[t.K])
		switch t.K {
		case api.KRef, api.KArray:
			w.short(w.places[t])
		case api.KNew:
			w.short(t.At)
		}
	}
}

// frame writes the map m, whose step counts from the place from.
func (w writer) frame(m api.Map, from int) {
	w.Uint(byteSize, mapByte)
	w.short(m.At - from)
	w.types(m.Frame.Locals)
	w.types(m.Frame.Stack)
}

// Encode answers the bytes of the maps l of a class with the pool p.
func Encode(p []api.Const, l []api.Map) ([]byte, api.Errno) {
	if len(l) == 0 {
		return nil, api.OK
	}
	c := placesOf(p)
	if !c.areMaps(l) {
		return nil, api.ErrArg
	}
	w := newWriter(c)
	w.short(len(l))
	b := w.Out()
	from := 0
	for _, m := range l {
		w = newWriter(c) // one for each, as all maps may have more bytes than a writer takes
		w.frame(m, from)
		b = append(b, w.Out()...)
		from = m.At + 1
	}
	return b, api.OK
}
