package rules

import (
	"understudy/api"
	"understudy/kind"
)

// Names of classes and methods of which a rule speaks.
const (
	throwable = "Throwable"
	system    = "Sys"
	beginName = "<init>"
)

// Types that instructions pop and push.
var (
	number  = api.Type{K: api.KInt}
	long    = api.Type{K: api.KLong}
	null    = api.Type{K: api.KNull}
	numbers = api.Type{K: api.KArray, Dims: 1, Elem: api.KInt}
	longs   = api.Type{K: api.KArray, Dims: 1, Elem: api.KLong}
)

// classType answers the type of objects of the class with that name.
func classType(name string) api.Type { return api.Type{K: api.KRef, Name: name} }

// ofKind makes what tells types of the kind k.
func ofKind(k int) func(t api.Type) bool {
	return func(t api.Type) bool { return t.K == k }
}

// isMadeAt makes what tells the type of what new made at the place at, not yet begun.
func isMadeAt(at int) func(t api.Type) bool {
	return func(t api.Type) bool { return t.K == api.KNew && t.At == at }
}

// isArray tells types of arrays, and null, which may be one.
func isArray(t api.Type) bool { return t.K == api.KArray || t.K == api.KNull }

// isBegun tells types of what was begun: of objects, of arrays, and of none.
func isBegun(t api.Type) bool { return t.K == api.KRef || isArray(t) }

// isReference tells types of all that is no number, begun or not.
func isReference(t api.Type) bool {
	switch t.K {
	case api.KNew, api.KThis:
		return true
	}
	return isBegun(t)
}

// namesClass tells types that name a class: those of its objects, and of arrays of them.
func namesClass(t api.Type) bool {
	switch t.K {
	case api.KRef:
		return true
	case api.KArray:
		return t.Elem == api.KRef
	}
	return false
}

// arrayOf answers the type of an array that holds t, which may have too many dimensions.
func arrayOf(t api.Type) api.Type {
	if t.K == api.KArray {
		t.Dims++
		return t
	}
	return api.Type{K: api.KArray, Name: t.Name, Dims: 1, Elem: t.K}
}

// held answers what an array of the type t holds, which must be a reference: of null null.
func held(t api.Type) api.Type {
	if t.K == api.KNull {
		return null
	}
	in, holds := kind.Holds(t)
	must(holds && isReference(in))
	return in
}
