package sum

import (
	"bytes"
	"errors"
	"slices"

	"understudy/api"
	"understudy/wire"
)

// fieldSize is how many bytes a frame's number has, and its sum.
const fieldSize = 4

// fault is why there can be no frame, and the part of it where that shows.
type fault struct {
	part string
	why  api.Errno
}

// Error tells the part, and what is wrong there.
func (f fault) Error() string { return "a frame's " + f.part + ": " + f.why.Error() }

// Unwrap answers what is wrong alone.
func (f fault) Unwrap() error { return f.why }

// which tells what is wrong of an error that wraps it; of no error OK.
func which(err error) api.Errno {
	for _, e := range []api.Errno{api.ErrShort, api.ErrLong, api.ErrSum} {
		if errors.Is(err, e) {
			return e
		}
	}
	return api.OK
}

// field answers x in the bytes of a field, the highest first.
func field(x uint32) []byte {
	w, _ := wire.NewWriter(fieldSize)
	w.Uint(fieldSize, uint64(x))
	return w.Out()
}

// seal answers what ends the frame of that number, which is given in its bytes, and that content.
func seal(number, content []byte) []byte {
	add := summing()
	add(number)
	s := field(add(content))
	slices.Reverse(s) // of the sum alone the lowest byte is the first
	return s
}

// sizeOf tells how many bytes the frame of n bytes has. Both ways ask it, so that no frame is made that does not open.
func sizeOf(n uint64) (int, error) {
	if n > api.MaxFrame {
		return 0, fault{"number", api.ErrLong}
	}
	return fieldSize + int(n) + fieldSize, nil
}

// firstSize tells how many bytes the frame has that b begins with.
func firstSize(b []byte) (int, error) {
	n, e := wire.NewReader(b[:min(fieldSize, len(b))]).Uint(fieldSize)
	if e != api.OK {
		return 0, fault{"number", e}
	}
	size, err := sizeOf(n)
	if err == nil && size > len(b) {
		return 0, fault{"bytes", api.ErrShort}
	}
	return size, err
}

// contentOf answers what stands in a frame that is there whole, as a piece of it still: none where the sum is another.
func contentOf(frame []byte) ([]byte, error) {
	end := len(frame) - fieldSize
	number, content := frame[:fieldSize], frame[fieldSize:end]
	if !bytes.Equal(frame[end:], seal(number, content)) {
		return nil, fault{"sum", api.ErrSum}
	}
	return content, nil
}

// Wrap answers the frame of the bytes b.
func Wrap(b []byte) ([]byte, api.Errno) {
	n := uint64(len(b))
	if _, err := sizeOf(n); err != nil {
		return nil, which(err)
	}
	number := field(uint32(n))
	return slices.Concat(number, b, seal(number, b)), api.OK
}

// Open answers what stands in the frame that b begins with, and how many bytes the frame has: these of a frame with another sum too, as who reads many frames can go on behind it.
func Open(b []byte) ([]byte, int, api.Errno) {
	size, err := firstSize(b)
	if err != nil {
		return nil, 0, which(err)
	}
	content, err := contentOf(b[:size])
	return slices.Clone(content), size, which(err)
}
