package wire

import (
	"slices"

	"understudy/api"
)

// Reader reads bytes in order.
type Reader struct {
	bytes []byte
	at    int
	made  bool
}

// NewReader makes a reader that stands at the first of the bytes b.
func NewReader(b []byte) *Reader {
	return &Reader{bytes: slices.Clone(b), made: true}
}

// isZero tells whether there is no reader, or one that no call made.
func (r *Reader) isZero() bool { return r == nil || !r.made }

// refusal tells why n bytes can't be read. What is asked of a list is asked of a number too, behind what is asked of it alone.
func (r *Reader) refusal(what, n int) api.Errno {
	if r.isZero() {
		return api.ErrZero
	}
	switch what {
	case aNumber:
		if !isWidth(n) {
			return api.ErrArg
		}
		fallthrough
	case aList:
		if n < 0 {
			return api.ErrArg
		}
		if n > r.Left() {
			return api.ErrShort
		}
	}
	return api.OK
}

// next answers the next n bytes, and goes behind them; they are the reader's own still.
func (r *Reader) next(n int) []byte {
	from := r.at
	r.at += n
	return r.bytes[from:r.at]
}

// readNumber reads a number of n bytes, of either kind.
func readNumber[N number](r *Reader, n int) (N, api.Errno) {
	if e := r.refusal(aNumber, n); e != api.OK {
		return 0, e
	}
	var x N
	for _, c := range r.next(n) {
		x = x<<8 | N(c)
	}
	return cut(x, n), api.OK
}

// Uint reads a number of n bytes that is not negative.
func (r *Reader) Uint(n int) (uint64, api.Errno) { return readNumber[uint64](r, n) }

// Int reads a number of n bytes in two's complement.
func (r *Reader) Int(n int) (int64, api.Errno) { return readNumber[int64](r, n) }

// Bytes reads n bytes.
func (r *Reader) Bytes(n int) ([]byte, api.Errno) {
	if e := r.refusal(aList, n); e != api.OK {
		return nil, e
	}
	return slices.Clone(r.next(n)), api.OK
}

// At tells how many bytes were read.
func (r *Reader) At() int {
	if r.isZero() {
		return 0
	}
	return r.at
}

// Left tells how many bytes are left.
func (r *Reader) Left() int {
	if r.isZero() {
		return 0
	}
	return len(r.bytes) - r.at
}
