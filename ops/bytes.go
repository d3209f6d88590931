package ops

import (
	"understudy/api"
	"understudy/wire"
)

// How many bytes a code has, and an instruction at most.
const (
	codeSize  = 1
	mostBytes = 3
)

// Decode answers the instruction that begins at the place at of b.
func Decode(b []byte, at int) (api.Instr, api.Errno) {
	if at < 0 || at > len(b) {
		return api.Instr{}, api.ErrArg
	}
	rest := b[at:]
	r := wire.NewReader(rest[:min(mostBytes, len(rest))]) // what stands behind is not looked at, however much it is
	op, e := r.Uint(codeSize)
	if e != api.OK {
		return api.Instr{}, e
	}
	shape, isCode := Shape(int(op))
	if !isCode {
		return api.Instr{}, api.ErrOp
	}
	i, e := readOperands(r, operandsOf(shape), at)
	if e != api.OK {
		return api.Instr{}, e
	}
	i.Op = int(op)
	return i, api.OK
}

// readOperands reads the numbers of an instruction that begins at the place at, and answers it but for its code.
func readOperands(r *wire.Reader, o operands, at int) (api.Instr, api.Errno) {
	a, e := o.a.read(r)
	if e != api.OK {
		return api.Instr{}, e
	}
	b, e := o.b.read(r)
	if e != api.OK {
		return api.Instr{}, e
	}
	if o.leads {
		a += at
	}
	return api.Instr{At: at, A: a, B: b, Size: r.At()}, api.OK
}

// isPlace tells whether code can have the place n, or end there.
func isPlace(n int) bool { return n >= 0 && n <= api.MaxCode }

// Encode answers the bytes of the instruction i.
func Encode(i api.Instr) ([]byte, api.Errno) {
	shape, isCode := Shape(i.Op)
	if !isCode {
		return nil, api.ErrOp
	}
	o := operandsOf(shape)
	a := i.A
	if o.leads {
		if !isPlace(i.At) || !isPlace(a) {
			return nil, api.ErrArg
		}
		a -= i.At
	}
	w, _ := wire.NewWriter(mostBytes)
	w.Uint(codeSize, uint64(i.Op))
	if e := o.a.write(w, a); e != api.OK {
		return nil, e
	}
	if e := o.b.write(w, i.B); e != api.OK {
		return nil, e
	}
	return w.Out(), api.OK
}
