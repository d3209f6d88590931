package ops

import (
	"understudy/api"
	"understudy/wire"
)

// operand is what a number of an instruction has behind the code.
type operand struct {
	size   int // how many bytes: 0 where there is no such number
	signed bool
}

// operands is what instructions of one shape have behind the code. Reading and writing both go by it, so that they can't differ.
type operands struct {
	a, b  operand
	leads bool // A is told as a place, and counted from where the instruction begins
}

// operandsOf tells what instructions of the shape have.
func operandsOf(shape byte) operands {
	var o operands
	switch shape {
	case 't':
		o.leads = true
		fallthrough
	case 's':
		o.a.signed = true
		fallthrough
	case 'c':
		o.a.size = 2
	case 'i':
		o.b = operand{1, true}
		fallthrough
	case 'u':
		o.a.size = 1
	case 'b':
		o.a = operand{1, true}
	}
	return o
}

// read reads the number; one that is not there is 0.
func (o operand) read(r *wire.Reader) (int, api.Errno) {
	switch {
	case o.size == 0:
		return 0, api.OK
	case o.signed:
		n, e := r.Int(o.size)
		return int(n), e
	}
	n, e := r.Uint(o.size)
	return int(n), e
}

// write writes the number n. One that is not there must be 0.
func (o operand) write(w *wire.Writer, n int) api.Errno {
	switch {
	case o.size == 0 && n != 0:
		return api.ErrArg
	case o.size == 0:
		return api.OK
	case o.signed:
		return w.Int(o.size, int64(n))
	}
	return w.Uint(o.size, uint64(n)) // a number below 0 is too great for any size here
}
