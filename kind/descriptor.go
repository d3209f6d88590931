package kind

import (
	"strings"

	"understudy/api"
)

// isName tells whether a class may have that name in a descriptor.
func isName(name string) bool {
	if name == "" || len(name) > api.MaxName {
		return false
	}
	for i := range len(name) {
		switch name[i] {
		case '.', ';', '[', '/', '<', '>':
			return false
		}
	}
	return true
}

// first answers the type of the field's descriptor that s begins with, and how many bytes it has: 0 where s begins with none.
func first(s string) (api.Type, int) {
	for dims := range min(len(s), api.MaxDims+1) { // all bytes ahead of that one are [
		if s[dims] == '[' {
			continue
		}
		t, size := flat(s[dims:])
		if size == 0 {
			break
		}
		return withDims(t, dims), dims + size
	}
	return api.Type{}, 0
}

// flat answers the type, none of an array, of the descriptor that s begins with, and how many bytes it has: 0 where s begins with none.
func flat(s string) (api.Type, int) {
	switch s[0] {
	case 'I':
		return api.Type{K: api.KInt}, 1
	case 'J':
		return api.Type{K: api.KLong}, 1
	case 'L':
		name, _, ends := strings.Cut(s[1:], ";")
		if ends && isName(name) {
			return api.Type{K: api.KRef, Name: name}, len("L") + len(name) + len(";")
		}
	}
	return api.Type{}, 0
}

// withDims answers the type of an array of t with so many dimensions: t itself, if there are none.
func withDims(t api.Type, dims int) api.Type {
	if dims == 0 {
		return t
	}
	return api.Type{K: api.KArray, Name: t.Name, Dims: dims, Elem: t.K}
}

// params answers the types between the brackets that s begins with, and how many bytes these and the brackets have: 0 where it does not begin so.
func params(s string) ([]api.Type, int) {
	if !strings.HasPrefix(s, "(") {
		return nil, 0
	}
	var l []api.Type
	at := len("(")
	for range api.MaxParams + 1 { // the last turn may close alone
		if strings.HasPrefix(s[at:], ")") {
			return l, at + len(")")
		}
		t, size := first(s[at:])
		if size == 0 {
			break
		}
		l = append(l, t)
		at += size
	}
	return nil, 0
}

// result answers the type of which s is the descriptor behind the brackets of a method.
func result(s string) (api.Type, api.Errno) {
	if s == "V" {
		return api.Type{K: api.KVoid}, api.OK
	}
	return Field(s)
}

// spell answers the one text that could be the descriptor of t.
func spell(t api.Type) string {
	switch t.K {
	case api.KInt:
		return "I"
	case api.KLong:
		return "J"
	case api.KVoid:
		return "V"
	case api.KRef:
		return "L" + t.Name + ";"
	case api.KArray:
		if t.Dims < 1 || t.Dims > api.MaxDims {
			return ""
		}
		return strings.Repeat("[", t.Dims) + spell(api.Type{K: t.Elem, Name: t.Name})
	}
	return ""
}
