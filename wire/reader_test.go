package wire_test

import (
	"bytes"
	"math"
	"testing"

	"understudy/api"
	"understudy/wire"
)

// badWidths are numbers of bytes that no number has.
var badWidths = []int{0, -1, 9, 10, 64, 256, 1 << 32, math.MinInt, math.MaxInt, math.MinInt + 8, -7}

// stands asks where a reader is.
func stands(t *testing.T, r *wire.Reader, at, left int) {
	t.Helper()
	if r.At() != at || r.Left() != left {
		t.Errorf("at %d, left %d; want %d, %d", r.At(), r.Left(), at, left)
	}
}

// highestFirst answers x as n bytes, worked out by division.
func highestFirst(n int, x uint64) []byte {
	b := make([]byte, n)
	for i := range b {
		b[n-1-i] = byte(x % 256)
		x /= 256
	}
	return b
}

func TestReaderBegins(t *testing.T) { // P1.1
	for _, b := range [][]byte{nil, {}, {7}, {1, 2, 3}, make([]byte, 1000)} {
		r := wire.NewReader(b)
		if r == nil {
			t.Fatal("no reader")
		}
		stands(t, r, 0, len(b))
	}
}

func TestReaderExamples(t *testing.T) { // P1.1, the chapter's examples and the first of the whole
	r := wire.NewReader([]byte{1, 2, 3})
	if x, e := r.Uint(2); x != 258 || e != api.OK {
		t.Errorf("Uint(2) of 01 02 03: %d, %d", x, e)
	}
	stands(t, r, 2, 1)
	if x, e := wire.NewReader([]byte{0xFF}).Int(1); x != -1 || e != api.OK {
		t.Errorf("Int(1) of FF: %d, %d", x, e)
	}
	if x, e := wire.NewReader([]byte{1}).Uint(2); x != 0 || e != api.ErrShort {
		t.Errorf("Uint(2) of 01: %d, %d", x, e)
	}
	if x, e := wire.NewReader([]byte{1, 2}).Uint(2); x != 258 || e != api.OK {
		t.Errorf("Uint(2) of 01 02: %d, %d", x, e)
	}
}

func TestReaderUint(t *testing.T) { // P1.1
	whole := []byte{0xF1, 0x02, 0xE3, 0x04, 0xD5, 0x06, 0xC7, 0x08, 0x99, 0x9A}
	want := uint64(0)
	for n := 1; n <= 8; n++ {
		want = want*256 + uint64(whole[n-1])
		r := wire.NewReader(whole)
		if x, e := r.Uint(n); x != want || e != api.OK {
			t.Errorf("Uint(%d): %x, %d; want %x", n, x, e, want)
		}
		stands(t, r, n, len(whole)-n)
		if x, e := r.Uint(1); x != uint64(whole[n]) || e != api.OK {
			t.Errorf("behind Uint(%d): %x, %d", n, x, e)
		}
	}
	for n := 1; n <= 8; n++ {
		for _, c := range []byte{0, 0x7F, 0x80, 0xFF} {
			b := bytes.Repeat([]byte{c}, n)
			want := uint64(0)
			for range n {
				want = want*256 + uint64(c)
			}
			r := wire.NewReader(b)
			if x, e := r.Uint(n); x != want || e != api.OK {
				t.Errorf("Uint(%d) of %x: %x, %d; want %x", n, b, x, e, want)
			}
			stands(t, r, n, 0)
		}
	}
}

func TestReaderInt(t *testing.T) { // P1.1
	for n := 1; n <= 8; n++ {
		high := int64(math.MaxInt64)
		if n < 8 {
			high = int64(1)<<(8*n-1) - 1
		}
		for _, want := range []int64{0, 1, -1, 5, -5, high, high - 1, -high, -high - 1} {
			b := append(highestFirst(n, uint64(want)), 0xA5)
			r := wire.NewReader(b)
			if x, e := r.Int(n); x != want || e != api.OK {
				t.Errorf("Int(%d) of %x: %d, %d; want %d", n, b, x, e, want)
			}
			stands(t, r, n, 1)
		}
	}
	r := wire.NewReader([]byte{0x80, 0x7F, 0xFF, 0xFE, 0x12, 0x34})
	for i, want := range []int64{-128, 127} {
		if x, e := r.Int(1); x != want || e != api.OK {
			t.Errorf("Int %d: %d, %d", i, x, e)
		}
	}
	if x, e := r.Int(2); x != -2 || e != api.OK {
		t.Errorf("Int(2): %d, %d", x, e)
	}
	if x, e := r.Int(2); x != 0x1234 || e != api.OK {
		t.Errorf("Int(2): %d, %d", x, e)
	}
	stands(t, r, 6, 0)
}

func TestReaderBytes(t *testing.T) { // P1.1
	whole := []byte{5, 4, 3, 2, 1, 0, 255, 128, 127, 9, 8, 7}
	for n := range len(whole) + 1 {
		r := wire.NewReader(whole)
		if b, e := r.Bytes(n); !bytes.Equal(b, whole[:n]) || e != api.OK {
			t.Errorf("Bytes(%d): %x, %d", n, b, e)
		}
		stands(t, r, n, len(whole)-n)
		if b, e := r.Bytes(len(whole) - n); !bytes.Equal(b, whole[n:]) || e != api.OK {
			t.Errorf("the rest behind %d: %x, %d", n, b, e)
		}
		stands(t, r, len(whole), 0)
		if b, e := r.Bytes(0); len(b) != 0 || e != api.OK {
			t.Errorf("Bytes(0) at the end: %x, %d", b, e)
		}
	}
}

func TestReaderRefusesWidths(t *testing.T) { // P1.1, P2, P6
	for _, b := range [][]byte{nil, {}, {1}, {1, 2, 3, 4, 5, 6, 7, 8, 9, 10, 11, 12}} { // nothing left as well: ErrArg is ahead
		r := wire.NewReader(b)
		for _, n := range badWidths {
			if x, e := r.Uint(n); x != 0 || e != api.ErrArg {
				t.Errorf("Uint(%d): %d, %d", n, x, e)
			}
			if x, e := r.Int(n); x != 0 || e != api.ErrArg {
				t.Errorf("Int(%d): %d, %d", n, x, e)
			}
		}
		for _, n := range []int{-1, -2, -8, math.MinInt} {
			if c, e := r.Bytes(n); len(c) != 0 || e != api.ErrArg {
				t.Errorf("Bytes(%d): %x, %d", n, c, e)
			}
		}
		stands(t, r, 0, len(b))
	}
}

func TestReaderShort(t *testing.T) { // P1.1, P2
	for n := 1; n <= 8; n++ {
		for have := range n { // from none up to one byte too few
			b := bytes.Repeat([]byte{0xC3}, have+2)
			r := wire.NewReader(b)
			if _, e := r.Bytes(2); e != api.OK {
				t.Fatalf("Bytes: %d", e)
			}
			if x, e := r.Uint(n); x != 0 || e != api.ErrShort {
				t.Errorf("Uint(%d) of %d bytes: %d, %d", n, have, x, e)
			}
			stands(t, r, 2, have)
			if x, e := r.Int(n); x != 0 || e != api.ErrShort {
				t.Errorf("Int(%d) of %d bytes: %d, %d", n, have, x, e)
			}
			stands(t, r, 2, have)
			if c, e := r.Bytes(n); len(c) != 0 || e != api.ErrShort {
				t.Errorf("Bytes(%d) of %d bytes: %x, %d", n, have, c, e)
			}
			stands(t, r, 2, have)
			if c, e := r.Bytes(have); !bytes.Equal(c, b[2:]) || e != api.OK { // what is there can be read still
				t.Errorf("Bytes(%d): %x, %d", have, c, e)
			}
		}
	}
	r := wire.NewReader([]byte{1, 2, 3, 4})
	r.Uint(3)
	for _, n := range []int{2, 100, math.MaxInt, math.MaxInt - 1, math.MaxInt - 3} {
		if c, e := r.Bytes(n); len(c) != 0 || e != api.ErrShort {
			t.Errorf("Bytes(%d): %x, %d", n, c, e)
		}
		stands(t, r, 3, 1)
	}
	if x, e := r.Uint(1); x != 4 || e != api.OK {
		t.Errorf("the last: %d, %d", x, e)
	}
}

func TestReaderMixed(t *testing.T) { // P1.1
	r := wire.NewReader([]byte{0, 0, 1, 0xFF, 0xFF, 0xFF, 0xFF, 7, 8, 9, 0x80, 0, 0, 0, 0, 0, 0, 0})
	if x, e := r.Uint(3); x != 1 || e != api.OK {
		t.Errorf("Uint(3): %d, %d", x, e)
	}
	if x, e := r.Int(4); x != -1 || e != api.OK {
		t.Errorf("Int(4): %d, %d", x, e)
	}
	if b, e := r.Bytes(3); !bytes.Equal(b, []byte{7, 8, 9}) || e != api.OK {
		t.Errorf("Bytes(3): %x, %d", b, e)
	}
	if x, e := r.Int(8); x != math.MinInt64 || e != api.OK {
		t.Errorf("Int(8): %d, %d", x, e)
	}
	stands(t, r, 18, 0)
}

func TestReaderKeepsNothing(t *testing.T) { // P4
	b := []byte{1, 2, 3, 4, 5, 6, 7, 8, 9}
	r := wire.NewReader(b)
	for i := range b {
		b[i] = 0xEE
	}
	if x, e := r.Uint(2); x != 0x0102 || e != api.OK {
		t.Errorf("Uint(2) behind a change of what was handed in: %x, %d", x, e)
	}
	first, _ := r.Bytes(3)
	for i := range first {
		first[i] = 0xDD
	}
	_ = append(first, 0xDD, 0xDD, 0xDD)
	second, e := r.Bytes(4)
	if !bytes.Equal(second, []byte{6, 7, 8, 9}) || e != api.OK {
		t.Errorf("Bytes(4) behind a change of an answer: %x, %d", second, e)
	}
	for i, c := range b {
		if c != 0xEE {
			t.Errorf("byte %d of what was handed in is %x", i, c)
		}
	}
}

func TestReaderChangesNothing(t *testing.T) { // P4
	b := []byte{1, 2, 3, 4, 5, 6, 7, 8, 9, 10, 11, 12}
	r := wire.NewReader(b[:10])
	r.Uint(3)
	r.Int(3)
	c, _ := r.Bytes(4)
	for i := range c {
		c[i] = 0xDD
	}
	_ = append(c, 0xDD, 0xDD)
	for i := range b {
		if b[i] != byte(i+1) {
			t.Errorf("byte %d of what was handed in is %x", i, b[i])
		}
	}
}

func TestReadersApart(t *testing.T) { // P5
	b := []byte{1, 2, 3, 4}
	r, s := wire.NewReader(b), wire.NewReader(b)
	r.Uint(3)
	stands(t, s, 0, 4)
	if x, e := s.Uint(4); x != 0x01020304 || e != api.OK {
		t.Errorf("Uint(4): %x, %d", x, e)
	}
	stands(t, r, 3, 1)
}

func TestReaderZero(t *testing.T) { // P1.3
	for i, r := range []*wire.Reader{nil, new(wire.Reader)} {
		for range 2 {
			for n := 1; n <= 8; n++ {
				if x, e := r.Uint(n); x != 0 || e != api.ErrZero {
					t.Errorf("%d: Uint(%d): %d, %d", i, n, x, e)
				}
				if x, e := r.Int(n); x != 0 || e != api.ErrZero {
					t.Errorf("%d: Int(%d): %d, %d", i, n, x, e)
				}
			}
			for _, n := range []int{0, 1, 9, math.MaxInt} {
				if b, e := r.Bytes(n); len(b) != 0 || e != api.ErrZero {
					t.Errorf("%d: Bytes(%d): %x, %d", i, n, b, e)
				}
			}
			stands(t, r, 0, 0)
		}
		for _, n := range badWidths { // the document leaves open which of two errors is told
			if x, e := r.Uint(n); x != 0 || e == api.OK {
				t.Errorf("%d: Uint(%d): %d, %d", i, n, x, e)
			}
			if x, e := r.Int(n); x != 0 || e == api.OK {
				t.Errorf("%d: Int(%d): %d, %d", i, n, x, e)
			}
			if b, e := r.Bytes(n); len(b) != 0 || e == api.OK {
				t.Errorf("%d: Bytes(%d): %x, %d", i, n, b, e)
			}
		}
		stands(t, r, 0, 0)
	}
}
