package flow

import (
	"iter"

	"understudy/api"
)

// Check answers the instructions of m, if none of them is left for a place where no instruction begins, and m's traps name no such place.
func Check(m api.Method) ([]api.Instr, api.Errno) {
	l, e := List(m.Code)
	if e != api.OK {
		return nil, e
	}
	if len(l) == 0 || Falls(l[len(l)-1]) || strays(l, m) {
		return nil, api.ErrFlow
	}
	return l, api.OK
}

// strays tells whether m, with the instructions l, names a place that it may not.
func strays(l []api.Instr, m api.Method) bool {
	places := placesOf(l)
	isStray := false
named:
	for at, mayEnd := range named(l, m.Traps) {
		switch _, begins := places[at]; {
		case begins:
		case mayEnd && at == len(m.Code):
		default:
			isStray = true
			break named
		}
	}
	return isStray
}

// placesOf answers where the instructions of l begin, each with its place in l: a method may name as many places as it has instructions, so that going through l for each would take long.
func placesOf(l []api.Instr) map[int]int {
	places := make(map[int]int, len(l))
	for n, i := range l {
		places[i.At] = n
	}
	return places
}

// named goes over the places that instructions and traps name, and tells of each whether it may be the code's end too.
func named(l []api.Instr, traps []api.Trap) iter.Seq2[int, bool] {
	return func(yield func(int, bool) bool) {
		for _, i := range l {
			if to, leads := Leads(i); leads && !yield(to, false) {
				return
			}
		}
		for _, t := range traps {
			if !yield(t.From, false) || !yield(t.To, true) || !yield(t.Handler, false) {
				return
			}
		}
	}
}
