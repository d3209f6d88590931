package wire_test

import (
	"bytes"
	"math"
	"testing"

	"understudy/api"
	"understudy/wire"
)

// part is something that is written, and read again.
type part struct {
	kind  int // 0: Uint, 1: Int, 2: Bytes
	n     int
	u     uint64
	i     int64
	bytes []byte
}

// ends are all numbers at the ends of n bytes of both kinds, and some lists.
func ends() []part {
	var l []part
	for n := 1; n <= 8; n++ {
		all := uint64(math.MaxUint64) >> (64 - 8*n)
		half := int64(all >> 1)
		for _, u := range []uint64{0, 1, all >> 1, all>>1 + 1, all - 1, all} {
			l = append(l, part{kind: 0, n: n, u: u})
		}
		for _, i := range []int64{0, 1, -1, half, half - 1, -half, -half - 1} {
			l = append(l, part{kind: 1, n: n, i: i})
		}
		l = append(l, part{kind: 2, n: n, bytes: bytes.Repeat([]byte{byte(n), 0xFF}, n)[:n]})
	}
	return append(l, part{kind: 2}, part{kind: 2, bytes: []byte{}})
}

// many are parts that a short rule makes.
func many(seed uint64, count int) []part {
	var l []part
	next := func() uint64 {
		seed = seed*6364136223846793005 + 1442695040888963407
		return seed>>32 ^ seed<<32
	}
	for range count {
		p := part{kind: int(next() % 3), n: int(next()%8) + 1}
		p.u = next() >> (64 - 8*p.n)
		p.i = int64(next()) >> (64 - 8*p.n)
		if p.kind == 2 {
			p.n = int(next() % 20)
			p.bytes = make([]byte, p.n)
			for i := range p.bytes {
				p.bytes[i] = byte(next())
			}
		}
		l = append(l, p)
	}
	return l
}

func writeAll(t *testing.T, w *wire.Writer, l []part) {
	t.Helper()
	for _, p := range l {
		var e api.Errno
		switch p.kind {
		case 0:
			e = w.Uint(p.n, p.u)
		case 1:
			e = w.Int(p.n, p.i)
		case 2:
			e = w.Bytes(p.bytes)
		}
		if e != api.OK {
			t.Fatalf("%+v: %d", p, e)
		}
	}
}

func readAll(t *testing.T, r *wire.Reader, l []part) {
	t.Helper()
	at := 0
	for _, p := range l {
		got := p
		var e api.Errno
		switch p.kind {
		case 0:
			got.u, e = r.Uint(p.n)
		case 1:
			got.i, e = r.Int(p.n)
		case 2:
			got.bytes, e = r.Bytes(p.n)
		}
		at += p.n
		if e != api.OK || got.u != p.u || got.i != p.i || !bytes.Equal(got.bytes, p.bytes) || r.At() != at {
			t.Fatalf("%+v was read as %+v at %d: %d", p, got, r.At(), e)
		}
	}
	if r.Left() != 0 {
		t.Errorf("%d bytes are left", r.Left())
	}
	if _, e := r.Uint(1); e != api.ErrShort {
		t.Errorf("behind all: %d", e)
	}
}

func TestReadAsWritten(t *testing.T) { // P1.4
	lists := [][]part{nil, ends()}
	for seed := range uint64(40) {
		lists = append(lists, many(seed, 100))
	}
	for _, l := range lists {
		w := newWriter(t, 1<<14)
		writeAll(t, w, l)
		length := 0
		for _, p := range l {
			length += p.n
		}
		if w.Len() != length || len(w.Out()) != length {
			t.Fatalf("%d and %d bytes were written, not %d", w.Len(), len(w.Out()), length)
		}
		readAll(t, wire.NewReader(w.Out()), l)
	}
}

func TestReadAsWrittenPastRefusals(t *testing.T) { // P1.4, P2: what is refused leaves nothing behind
	w := newWriter(t, 1<<14)
	l := ends()
	for _, p := range l {
		if w.Uint(1, 256) != api.ErrArg || w.Int(2, 1<<15) != api.ErrArg || w.Bytes(make([]byte, 1<<14+1)) != api.ErrLong {
			t.Fatal("not refused")
		}
		writeAll(t, w, []part{p})
	}
	readAll(t, wire.NewReader(w.Out()), l)
}

func TestSameAgain(t *testing.T) { // P5
	l := many(77, 200)
	v, w := newWriter(t, 1<<14), newWriter(t, 1<<14)
	writeAll(t, v, l)
	for _, p := range l { // looked at between the calls
		writeAll(t, w, []part{p})
		if w.Len() != len(w.Out()) {
			t.Fatal("Len and Out differ")
		}
	}
	if !bytes.Equal(v.Out(), w.Out()) {
		t.Error("the same calls made other bytes")
	}
}
