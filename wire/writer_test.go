package wire_test

import (
	"bytes"
	"math"
	"testing"

	"understudy/api"
	"understudy/wire"
)

// newWriter makes a writer that must be made.
func newWriter(t *testing.T, most int) *wire.Writer {
	t.Helper()
	w, e := wire.NewWriter(most)
	if w == nil || e != api.OK {
		t.Fatalf("NewWriter(%d): %v, %d", most, w, e)
	}
	return w
}

// has asks what a writer has.
func has(t *testing.T, w *wire.Writer, want ...byte) {
	t.Helper()
	if !bytes.Equal(w.Out(), want) || w.Len() != len(want) {
		t.Errorf("out %x, of %d; want %x", w.Out(), w.Len(), want)
	}
}

func TestWriterBegins(t *testing.T) { // P1.2, the limit MaxFrame
	for _, most := range []int{0, 1, 8, 1000, api.MaxFrame - 1, api.MaxFrame} {
		has(t, newWriter(t, most))
	}
	for _, most := range []int{-1, -2, math.MinInt, api.MaxFrame + 1, 2 * api.MaxFrame, 1 << 32, math.MaxInt} {
		if w, e := wire.NewWriter(most); w != nil || e != api.ErrArg {
			t.Errorf("NewWriter(%d): %v, %d", most, w, e)
		}
	}
}

func TestWriterUint(t *testing.T) { // P1.2
	for n := 1; n <= 8; n++ {
		high := uint64(math.MaxUint64)
		if n < 8 {
			high = uint64(1)<<(8*n) - 1
		}
		for _, x := range []uint64{0, 1, 127, 128, 255, high, high - 1, high/2 + 1, high / 2, 0x0102030405060708 & high} {
			w := newWriter(t, 20)
			if e := w.Uint(n, x); e != api.OK {
				t.Errorf("Uint(%d, %x): %d", n, x, e)
			}
			has(t, w, highestFirst(n, x)...)
		}
		if n < 8 {
			w := newWriter(t, 20)
			w.Uint(1, 7)
			for _, x := range []uint64{high + 1, high + 2, 2 * (high + 1), 1 << 63, math.MaxUint64} {
				if e := w.Uint(n, x); e != api.ErrArg {
					t.Errorf("Uint(%d, %x): %d", n, x, e)
				}
			}
			has(t, w, 7)
		}
	}
	w := newWriter(t, 20)
	if e := w.Uint(8, 0x0102030405060708); e != api.OK {
		t.Errorf("Uint(8): %d", e)
	}
	if e := w.Uint(3, 0xA0B0C0); e != api.OK {
		t.Errorf("Uint(3): %d", e)
	}
	has(t, w, 1, 2, 3, 4, 5, 6, 7, 8, 0xA0, 0xB0, 0xC0)
}

func TestWriterInt(t *testing.T) { // P1.2
	for n := 1; n <= 8; n++ {
		high := int64(math.MaxInt64)
		if n < 8 {
			high = int64(1)<<(8*n-1) - 1
		}
		for _, x := range []int64{0, 1, -1, 100, -100, high, high - 1, -high, -high - 1} {
			w := newWriter(t, 20)
			if e := w.Int(n, x); e != api.OK {
				t.Errorf("Int(%d, %d): %d", n, x, e)
			}
			has(t, w, highestFirst(n, uint64(x))...)
		}
		if n < 8 {
			w := newWriter(t, 20)
			w.Uint(1, 7)
			for _, x := range []int64{high + 1, -high - 2, 2*high + 1, -2*high - 2, 2*high + 2, math.MaxInt64, math.MinInt64} {
				if e := w.Int(n, x); e != api.ErrArg {
					t.Errorf("Int(%d, %d): %d", n, x, e)
				}
			}
			has(t, w, 7)
		}
	}
	w := newWriter(t, 4)
	if w.Int(2, -2) != api.OK || w.Int(1, 127) != api.OK || w.Int(1, -128) != api.OK {
		t.Error("Int")
	}
	has(t, w, 0xFF, 0xFE, 0x7F, 0x80)
}

func TestWriterBytes(t *testing.T) { // P1.2, P3
	w := newWriter(t, 9)
	for _, b := range [][]byte{{1, 2, 3}, nil, {}, {0}, {255, 128, 127}} {
		if e := w.Bytes(b); e != api.OK {
			t.Errorf("Bytes(%x): %d", b, e)
		}
	}
	has(t, w, 1, 2, 3, 0, 255, 128, 127)
}

func TestWriterRefusesWidths(t *testing.T) { // P1.2, P2, P6
	for _, most := range []int{0, 1, 100} { // no room as well: ErrArg is ahead
		w := newWriter(t, most)
		for _, n := range badWidths {
			for _, x := range []uint64{0, 1, math.MaxUint64} {
				if e := w.Uint(n, x); e != api.ErrArg {
					t.Errorf("Uint(%d, %d): %d", n, x, e)
				}
				if e := w.Int(n, int64(x)); e != api.ErrArg {
					t.Errorf("Int(%d, %d): %d", n, int64(x), e)
				}
			}
		}
		has(t, w)
	}
}

func TestWriterRefusesNumbersFirst(t *testing.T) { // P1.2, P2: ErrArg ahead of ErrLong
	w := newWriter(t, 0)
	for n := 1; n < 8; n++ {
		if e := w.Uint(n, 1<<(8*n)); e != api.ErrArg {
			t.Errorf("Uint(%d) too great: %d", n, e)
		}
		if e := w.Int(n, 1<<(8*n-1)); e != api.ErrArg {
			t.Errorf("Int(%d) too great: %d", n, e)
		}
		if e := w.Int(n, -1<<(8*n-1)-1); e != api.ErrArg {
			t.Errorf("Int(%d) too small: %d", n, e)
		}
		if e := w.Uint(n, 1); e != api.ErrLong {
			t.Errorf("Uint(%d): %d", n, e)
		}
		if e := w.Int(n, -1); e != api.ErrLong {
			t.Errorf("Int(%d): %d", n, e)
		}
	}
	has(t, w)
}

func TestWriterFull(t *testing.T) { // P1.2
	for n := 1; n <= 8; n++ {
		w := newWriter(t, 2+n)
		w.Bytes([]byte{8, 9})
		if e := w.Bytes(make([]byte, n+1)); e != api.ErrLong {
			t.Errorf("Bytes of %d: %d", n+1, e)
		}
		if n < 8 {
			if e := w.Uint(n+1, 5); e != api.ErrLong {
				t.Errorf("Uint(%d): %d", n+1, e)
			}
			if e := w.Int(n+1, -5); e != api.ErrLong {
				t.Errorf("Int(%d): %d", n+1, e)
			}
		}
		has(t, w, 8, 9)
		if e := w.Uint(n, 5); e != api.OK { // just as many as there may be
			t.Errorf("Uint(%d): %d", n, e)
		}
		want := append([]byte{8, 9}, highestFirst(n, 5)...)
		has(t, w, want...)
		if w.Uint(1, 0) != api.ErrLong || w.Int(1, 0) != api.ErrLong || w.Bytes([]byte{1}) != api.ErrLong {
			t.Error("more than it may have")
		}
		if w.Bytes(nil) != api.OK || w.Bytes([]byte{}) != api.OK {
			t.Error("no bytes fit always")
		}
		has(t, w, want...)
	}
	w := newWriter(t, 3)
	if w.Int(3, -1) != api.OK || w.Int(1, 0) != api.ErrLong {
		t.Error("Int at the bound")
	}
	has(t, w, 0xFF, 0xFF, 0xFF)
	v := newWriter(t, 3)
	if v.Bytes([]byte{1, 2, 3}) != api.OK || v.Bytes([]byte{4}) != api.ErrLong {
		t.Error("Bytes at the bound")
	}
	has(t, v, 1, 2, 3)
}

func TestWriterMaxFrame(t *testing.T) { // P1.2, the limit MaxFrame
	b := bytes.Repeat([]byte{1, 2, 3, 4}, api.MaxFrame/4)
	w := newWriter(t, api.MaxFrame)
	if e := w.Bytes(append(b, 5)); e != api.ErrLong {
		t.Errorf("one more than MaxFrame: %d", e)
	}
	if e := w.Bytes(b); e != api.OK || w.Len() != api.MaxFrame || !bytes.Equal(w.Out(), b) {
		t.Errorf("MaxFrame bytes: %d, %d", e, w.Len())
	}
	if w.Uint(1, 0) != api.ErrLong || w.Len() != api.MaxFrame {
		t.Error("one more behind MaxFrame")
	}
	v := newWriter(t, api.MaxFrame)
	for i := range api.MaxFrame { // a byte at a time ends soon as well
		if e := v.Uint(1, uint64(i%4+1)); e != api.OK {
			t.Fatalf("byte %d: %d", i, e)
		}
	}
	if !bytes.Equal(v.Out(), b) || v.Uint(1, 0) != api.ErrLong {
		t.Error("MaxFrame bytes, one by one")
	}
}

func TestWriterKeepsNothing(t *testing.T) { // P4
	b := []byte{1, 2, 3, 4}
	w := newWriter(t, 10)
	w.Bytes(b[:3])
	b[0] = 0xEE
	has(t, w, 1, 2, 3)
	w.Uint(1, 9)
	if !bytes.Equal(b, []byte{0xEE, 2, 3, 4}) {
		t.Errorf("what was handed in is %x", b)
	}
	first := w.Out()
	first[1] = 0xDD
	_ = append(first, 0xDD)
	has(t, w, 1, 2, 3, 9)
	second, third := w.Out(), w.Out()
	second[0] = 0xCC
	if !bytes.Equal(third, []byte{1, 2, 3, 9}) {
		t.Errorf("an answer behind a change of another: %x", third)
	}
	w.Uint(2, 0x0506)
	if !bytes.Equal(third, []byte{1, 2, 3, 9}) {
		t.Errorf("an answer behind a call: %x", third)
	}
	has(t, w, 1, 2, 3, 9, 5, 6)
}

func TestWritersApart(t *testing.T) { // P5
	v, w := newWriter(t, 2), newWriter(t, 4)
	v.Uint(2, 0x0102)
	w.Uint(1, 3)
	has(t, v, 1, 2)
	has(t, w, 3)
}

func TestWriterZero(t *testing.T) { // P1.3
	for i, w := range []*wire.Writer{nil, new(wire.Writer)} {
		for range 2 {
			for n := 1; n <= 8; n++ {
				if e := w.Uint(n, 1); e != api.ErrZero {
					t.Errorf("%d: Uint(%d): %d", i, n, e)
				}
				if e := w.Int(n, -1); e != api.ErrZero {
					t.Errorf("%d: Int(%d): %d", i, n, e)
				}
			}
			for _, b := range [][]byte{nil, {}, {1}, {1, 2, 3}} {
				if e := w.Bytes(b); e != api.ErrZero {
					t.Errorf("%d: Bytes(%x): %d", i, b, e)
				}
			}
			has(t, w)
		}
		for _, n := range badWidths { // the document leaves open which of two errors is told
			if w.Uint(n, 0) == api.OK || w.Int(n, 0) == api.OK {
				t.Errorf("%d: %d bytes were written", i, n)
			}
		}
		has(t, w)
	}
}
