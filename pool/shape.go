package pool

import "understudy/api"

// How many bits a number has, and a byte; how many bytes a CInt's number has.
const (
	numberBits = 64
	byteBits   = 8
	intSize    = 4
)

// shape is what constants of one tag have. Checks, writing and reading all go by it, so that they can't differ.
type shape struct {
	isText bool
	size   int    // how many bytes the number has: 0 where there is none
	leads  [2]int // the tags to which A and B must lead: 0 where there is no such place
}

// shapeOf tells what constants of that tag have, and whether there are such constants.
func shapeOf(tag int) (shape, bool) {
	var s shape
	switch tag {
	case api.CUtf8:
		s.isText = true
	case api.CLong:
		s.size = intSize // these, and those of a CInt
		fallthrough
	case api.CInt:
		s.size += intSize
	case api.CName:
		s.leads[1] = api.CUtf8
		fallthrough
	case api.CClass:
		s.leads[0] = api.CUtf8
	case api.CField, api.CMethod:
		s.leads = [2]int{api.CClass, api.CName}
	default:
		return shape{}, false
	}
	return s, true
}

// holds tells whether the shape has room for the text and the number of c. A number that the shape does not have is one of 0 bits, and so 0.
func (s shape) holds(c api.Const) bool {
	gap := numberBits - byteBits*s.size
	return (s.isText || c.Text == "") && c.N<<gap>>gap == c.N
}

// isLed tells whether the places of c lead where the shape says, in the pool p. One that the shape does not have must be 0.
func (s shape) isLed(p []api.Const, c api.Const) bool {
	for i, place := range [2]int{c.A, c.B} {
		if s.leads[i] == 0 && place != 0 || s.leads[i] != at(p, place).Tag {
			return false
		}
	}
	return true
}
