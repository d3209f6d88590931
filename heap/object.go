package heap

import (
	"understudy/api"
)

// object is an object's type, and where its values stand among those of all.
type object struct {
	t    api.Type
	from int
	to   int // not with it
}

// isZero tells whether there is no heap, or one that no call made.
func (h *Heap) isZero() bool { return h == nil || !h.made }

// isFull tells whether there is no room for a further object.
func (h *Heap) isFull() bool { return len(h.objects) >= h.most }

// add makes an object of the type t, whose values are the last n of all, and answers its number.
func (h *Heap) add(t api.Type, n int) int {
	to := len(h.values)
	h.objects = append(h.objects, object{t: t, from: to - n, to: to})
	return len(h.objects)
}

// find answers the object r.
func (h *Heap) find(r int) (object, api.Errno) {
	if h.isZero() {
		return object{}, api.ErrZero
	}
	if r < 1 || r > len(h.objects) {
		return object{}, api.ErrNone
	}
	return h.objects[r-1], api.OK
}

// cut answers the values of the object o, the heap's own. The third index keeps those of the object behind it out of reach.
func (h *Heap) cut(o object) []api.Value {
	return h.values[o.from:o.to:o.to]
}

// place answers where the value i of the object r stands.
func (h *Heap) place(r, i int) (*api.Value, api.Errno) {
	o, e := h.find(r)
	if e != api.OK {
		return nil, e
	}
	own := h.cut(o)
	if i < 0 || i >= len(own) {
		return nil, api.ErrArg
	}
	return &own[i], api.OK
}

// copied answers the same list in memory of its own.
func copied[E any](l []E) []E {
	c := make([]E, len(l))
	copy(c, l)
	return c
}
