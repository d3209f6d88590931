package pool_test

import (
	"bytes"
	"encoding/binary"
	"fmt"
	"math"
	"slices"
	"testing"

	"understudy/api"
	"understudy/pool"
	"understudy/text"
)

// tags are all that a constant can have.
var tags = []int{api.CUtf8, api.CInt, api.CLong, api.CClass, api.CField, api.CMethod, api.CName}

// sample answers a right pool with constants of all tags, whose places lead back and forward.
func sample() []api.Const {
	return []api.Const{
		{},
		{Tag: api.CMethod, A: 5, B: 4},
		{Tag: api.CUtf8, Text: "java/lang/Object"},
		{Tag: api.CUtf8, Text: "()V"},
		{Tag: api.CName, A: 6, B: 3},
		{Tag: api.CClass, A: 2},
		{Tag: api.CUtf8, Text: "<init>"},
		{Tag: api.CField, A: 5, B: 8},
		{Tag: api.CName, A: 9, B: 10},
		{Tag: api.CUtf8, Text: "gr\u00F6\u00DFe\x00\U00010400"},
		{Tag: api.CUtf8, Text: "J"},
		{Tag: api.CInt, N: -7},
		{Tag: api.CLong, N: 1<<40 + 5},
		{Tag: api.CUtf8},
	}
}

// where answers the first place of the sample at which the tag stands.
func where(tag int) int {
	return slices.IndexFunc(sample(), func(c api.Const) bool { return c.Tag == tag })
}

// with answers the sample, c behind its end; lastly the place of c.
func with(c api.Const) ([]api.Const, int) {
	p := append(sample(), c)
	return p, len(p) - 1
}

// texts answers a right pool of n places, in which texts stand.
func texts(n int) []api.Const {
	p := make([]api.Const, n)
	for i := 1; i < n; i++ {
		p[i] = api.Const{Tag: api.CUtf8, Text: string(rune('a' + i%26))}
	}
	return p
}

// rightByHand tells whether c, a constant of p behind the place 0, has only what it may, and leads where it must.
func rightByHand(p []api.Const, c api.Const) bool {
	tagAt := func(i int) int {
		if i < 1 || i >= len(p) {
			return -1
		}
		return p[i].Tag
	}
	switch c.Tag {
	case api.CUtf8:
		return c == api.Const{Tag: c.Tag, Text: c.Text}
	case api.CInt:
		return c == api.Const{Tag: c.Tag, N: c.N} && c.N >= math.MinInt32 && c.N <= math.MaxInt32
	case api.CLong:
		return c == api.Const{Tag: c.Tag, N: c.N}
	case api.CClass:
		return c == api.Const{Tag: c.Tag, A: c.A} && tagAt(c.A) == api.CUtf8
	case api.CField, api.CMethod:
		return c == api.Const{Tag: c.Tag, A: c.A, B: c.B} && tagAt(c.A) == api.CClass && tagAt(c.B) == api.CName
	case api.CName:
		return c == api.Const{Tag: c.Tag, A: c.A, B: c.B} && tagAt(c.A) == api.CUtf8 && tagAt(c.B) == api.CUtf8
	}
	return false
}

// checkByHand tells what is wrong with p, as the chapter tells it.
func checkByHand(p []api.Const) api.Errno {
	if len(p) > 1024 {
		return api.ErrLong
	}
	if len(p) == 0 || p[0] != (api.Const{}) {
		return api.ErrPool
	}
	for _, c := range p[1:] {
		if !rightByHand(p, c) {
			return api.ErrPool
		}
		if b, e := text.Encode(c.Text); e != api.OK || len(b) > 256 {
			return api.ErrUtf
		}
	}
	return api.OK
}

// encodeByHand answers the bytes of p, whatever it leads to.
func encodeByHand(p []api.Const) []byte {
	big := binary.BigEndian
	b := big.AppendUint16(nil, uint16(len(p)))
	for _, c := range p[1:] {
		b = append(b, byte(c.Tag))
		switch c.Tag {
		case api.CUtf8:
			s, _ := text.Encode(c.Text)
			b = append(big.AppendUint16(b, uint16(len(s))), s...)
		case api.CInt:
			b = big.AppendUint32(b, uint32(c.N))
		case api.CLong:
			b = big.AppendUint64(b, uint64(c.N))
		case api.CClass:
			b = big.AppendUint16(b, uint16(c.A))
		default:
			b = big.AppendUint16(big.AppendUint16(b, uint16(c.A)), uint16(c.B))
		}
	}
	return b
}

// decodeByHand reads the pool at the beginning of b, as the chapter tells it.
func decodeByHand(b []byte) ([]api.Const, int, api.Errno) {
	whole := len(b)
	e := api.OK
	take := func(n int) []byte {
		if e == api.OK && n > len(b) {
			e = api.ErrShort
		}
		if e != api.OK {
			return make([]byte, n)
		}
		c := b[:n]
		b = b[n:]
		return c
	}
	two := func() int { return int(binary.BigEndian.Uint16(take(2))) }
	n := two()
	switch {
	case e == api.OK && n > 1024:
		e = api.ErrLong
	case e == api.OK && n == 0:
		e = api.ErrPool
	}
	p := []api.Const{{}}
	for e == api.OK && len(p) < n {
		c := api.Const{Tag: int(take(1)[0])}
		switch c.Tag {
		case api.CUtf8:
			size := two()
			if e == api.OK && size > 256 {
				e = api.ErrUtf
			}
			s := take(size)
			if e == api.OK {
				c.Text, e = text.Decode(s)
			}
		case api.CInt:
			c.N = int64(int32(binary.BigEndian.Uint32(take(4))))
		case api.CLong:
			c.N = int64(binary.BigEndian.Uint64(take(8)))
		case api.CClass:
			c.A = two()
		case api.CField, api.CMethod, api.CName:
			c.A = two()
			c.B = two()
		default:
			if e == api.OK {
				e = api.ErrPool
			}
		}
		p = append(p, c)
	}
	if e == api.OK {
		e = checkByHand(p)
	}
	if e != api.OK {
		return nil, 0, e
	}
	return p, whole - len(b), api.OK
}

// show tells a pool, as far as it is short.
func show(p []api.Const) string {
	s := fmt.Sprintf("%d places %#v", len(p), p[:min(20, len(p))])
	return s[:min(1000, len(s))]
}

// refused asks that the pool p is wrong, and has no bytes.
func refused(t *testing.T, p []api.Const, want api.Errno) {
	t.Helper()
	before := slices.Clone(p)
	if e := pool.Check(p); e != want {
		t.Errorf("Check of %s: %d; want %d", show(p), e, want)
	}
	if b, e := pool.Encode(p); len(b) != 0 || e != want {
		t.Errorf("Encode of %s: %.20x, %d; want none, %d", show(p), b, e, want)
	}
	if !slices.Equal(p, before) {
		t.Errorf("what was handed in is %s; was %s", show(p), show(before))
	}
}

// goesRound asks that the pool p is right, has its bytes, and is read from them again, whatever stands behind. It answers them.
func goesRound(t *testing.T, p []api.Const) []byte {
	t.Helper()
	before := slices.Clone(p)
	if e := pool.Check(p); e != api.OK {
		t.Fatalf("Check of %s: %d", show(p), e)
	}
	b, e := pool.Encode(p)
	if want := encodeByHand(before); e != api.OK || !bytes.Equal(b, want) {
		t.Fatalf("Encode of %s: %.100x, %d; want %.100x", show(p), b, e, want)
	}
	if !slices.Equal(p, before) {
		t.Fatalf("Encode changed %s into %s", show(before), show(p))
	}
	reads(t, b, p)
	reads(t, append(slices.Clip(b), 0, 1, 0xFF), p)
	return b
}

// reads asks that b begins with the bytes of the pool p.
func reads(t *testing.T, b []byte, p []api.Const) {
	t.Helper()
	before := bytes.Clone(b)
	n := len(encodeByHand(p))
	if q, m, e := pool.Decode(b); !slices.Equal(q, p) || m != n || e != api.OK {
		t.Errorf("Decode of %d bytes %.100x: %s, %d, %d; want %s, %d", len(b), b, show(q), m, e, show(p), n)
	}
	if !bytes.Equal(b, before) {
		t.Errorf("Decode changed %.100x into %.100x", before, b)
	}
}

// noPool asks that b begins with no pool.
func noPool(t *testing.T, b []byte, want api.Errno) {
	t.Helper()
	before := bytes.Clone(b)
	if p, n, e := pool.Decode(b); len(p) != 0 || n != 0 || e != want {
		t.Errorf("Decode of %d bytes %.100x: %s, %d, %d; want none, 0, %d", len(b), b, show(p), n, e, want)
	}
	if !bytes.Equal(b, before) {
		t.Errorf("Decode changed %.100x into %.100x", before, b)
	}
}
