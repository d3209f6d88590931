package maps

import "understudy/api"

// must leaves the reading by a panic, unless what was read is right.
func must(right bool) {
	if !right {
		panic(api.ErrMaps)
	}
}

// unlessRefused answers what read reads, or the error with which the reading was left.
func unlessRefused(read func() []api.Map) (l []api.Map, e api.Errno) {
	defer func() {
		if x := recover(); x != nil {
			e = x.(api.Errno) // a fault of the program panics on here: it must not pass for wrong bytes
		}
	}()
	return read(), api.OK
}
