package wire

import (
	"slices"

	"understudy/api"
)

// Writer writes bytes in order, up to a bound.
type Writer struct {
	bytes []byte
	most  int
	made  bool
}

// NewWriter makes an empty writer that takes at most so many bytes.
func NewWriter(most int) (*Writer, api.Errno) {
	if most < 0 || most > api.MaxFrame {
		return nil, api.ErrArg
	}
	return &Writer{most: most, made: true}, api.OK
}

// isZero tells whether there is no writer, or one that no call made.
func (w *Writer) isZero() bool { return w == nil || !w.made }

// refusal tells why n bytes can't be written; right tells of a number whether it fits them. What is asked of a list is asked of a number too, behind what is asked of it alone.
func (w *Writer) refusal(what, n int, right bool) api.Errno {
	if w.isZero() {
		return api.ErrZero
	}
	switch what {
	case aNumber:
		if !right {
			return api.ErrArg
		}
		fallthrough
	case aList:
		if n > w.most-len(w.bytes) {
			return api.ErrLong
		}
	}
	return api.OK
}

// writeNumber writes a number of either kind in n bytes.
func writeNumber[N number](w *Writer, n int, x N) api.Errno {
	if e := w.refusal(aNumber, n, fits(x, n)); e != api.OK {
		return e
	}
	for i := n - 1; i >= 0; i-- {
		w.bytes = append(w.bytes, byte(x>>(8*i)))
	}
	return api.OK
}

// Uint writes a number that is not negative in n bytes.
func (w *Writer) Uint(n int, x uint64) api.Errno { return writeNumber(w, n, x) }

// Int writes a number in n bytes of two's complement.
func (w *Writer) Int(n int, x int64) api.Errno { return writeNumber(w, n, x) }

// Bytes writes bytes.
func (w *Writer) Bytes(b []byte) api.Errno {
	if e := w.refusal(aList, len(b), true); e != api.OK {
		return e
	}
	w.bytes = append(w.bytes, b...)
	return api.OK
}

// Out answers what was written.
func (w *Writer) Out() []byte {
	if w.isZero() {
		return nil
	}
	return slices.Clone(w.bytes)
}

// Len tells how many bytes were written.
func (w *Writer) Len() int {
	if w.isZero() {
		return 0
	}
	return len(w.bytes)
}
