package kind

import "understudy/api"

// object is the name of the class that each array may stand for.
const object = "Object"

// Assign tells whether a value of the type a may stand where one of the type b is asked.
func Assign(tree []Pair, a api.Type, b api.Type) bool {
	if a == b {
		return true
	}
	switch b.K {
	case api.KTop:
		return true
	case api.KRef:
		if a.K == api.KRef {
			return Below(tree, a.Name, b.Name)
		}
		if a.K == api.KArray {
			return b.Name == object
		}
		fallthrough // a is neither a class's nor an array's: null may be left
	case api.KArray:
		if a.K == api.KArray {
			return assignArray(tree, a, b)
		}
		fallthrough
	case api.KNull:
		return a.K == api.KNull
	}
	return false
}

// assignArray tells whether an array of the type a may stand where an array of the type b is asked.
func assignArray(tree []Pair, a, b api.Type) bool {
	switch {
	case a.Dims > b.Dims: // where b asks its Elem, a holds arrays still
		return b.Elem == api.KRef && b.Name == object
	case a.Dims < b.Dims || a.Elem != b.Elem:
		return false
	case a.Elem == api.KRef:
		return Below(tree, a.Name, b.Name)
	}
	return true
}

// Holds answers the type of what an array of the type t holds, and whether t is an array's.
func Holds(t api.Type) (api.Type, bool) {
	if t.K != api.KArray {
		return api.Type{}, false
	}
	if t.Dims > 1 {
		t.Dims--
		return t, true
	}
	return api.Type{K: t.Elem, Name: t.Name}, true
}
