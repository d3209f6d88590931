package maps

import (
	"slices"

	"understudy/api"
	"understudy/pool"
)

// places are the earliest places of the classes of a pool, by the types that their texts tell.
type places map[api.Type]int

// placesOf answers the places of the classes of p, as far as two bytes reach.
func placesOf(p []api.Const) places {
	found := places{}
	for place := range min(len(p), 1<<(8*shortSize)) {
		text, _ := pool.Class(p, place)
		t, isType := Type(text)
		if _, isThere := found[t]; isType && !isThere {
			found[t] = place
		}
	}
	return found
}

// isType tells whether t is a type of a frame: it has no parts that its kind has not, and a class is in the pool.
func (c places) isType(t api.Type) bool {
	switch t.K {
	case api.KRef, api.KArray:
		_, isThere := c[t]
		return isThere
	case api.KNew:
		if !isPlace(t.At) {
			return false
		}
		t.At = 0
		fallthrough // its place apart it has a kind alone, as these
	case api.KTop, api.KInt, api.KLong, api.KNull, api.KThis:
		return t == api.Type{K: t.K}
	}
	return false
}

// areTypes tells whether l are locals of a frame, or stand on its stack.
func (c places) areTypes(l []api.Type) bool {
	return len(l) <= api.MaxSlots && !slices.ContainsFunc(l, func(t api.Type) bool { return !c.isType(t) })
}

// isFrame tells whether f is a frame.
func (c places) isFrame(f api.Frame) bool {
	return c.areTypes(f.Locals) && c.areTypes(f.Stack) && f.Fresh == isFresh(f.Locals)
}

// areMaps tells whether l are frames at places that rise.
func (c places) areMaps(l []api.Map) bool {
	ahead := -1
	for _, m := range l {
		if m.At <= ahead || !isPlace(m.At) || !c.isFrame(m.Frame) {
			return false
		}
		ahead = m.At
	}
	return true
}
