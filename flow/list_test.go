package flow_test

import (
	"bytes"
	"math/rand"
	"slices"
	"testing"

	"understudy/api"
)

func TestListOfNone(t *testing.T) { // P7.1, P3, P7.3: no bytes, no instructions
	listsTo(t, nil, nil, api.OK)
	listsTo(t, []byte{}, nil, api.OK)
}

func TestListOfOne(t *testing.T) { // P7.1, P7.3: each byte with all of its bytes at several values, with fewer, and with one more
	for op := range 256 {
		shape, isCode := shapeOf[op]
		if !isCode {
			listsTo(t, []byte{byte(op)}, nil, api.ErrOp)
			listsTo(t, []byte{byte(op), 0, 0}, nil, api.ErrOp)
			continue
		}
		for _, x := range []byte{0, 1, 0x7F, 0x80, 0xFE, 0xFF} {
			for _, y := range []byte{0, 1, 0x7F, 0x80, 0xFE, 0xFF} {
				b := []byte{byte(op), x, y}[:sizes[shape]]
				listsTo(t, b, []api.Instr{instrByHand(b, 0)}, api.OK)
				for n := 1; n < len(b); n++ {
					listsTo(t, b[:n], nil, api.ErrShort)
				}
				listsTo(t, append(bytes.Clone(b), 9), []api.Instr{instrByHand(b, 0), {At: len(b), Op: 9, Size: 1}}, api.OK)
				listsTo(t, append(bytes.Clone(b), 200), nil, api.ErrOp)
				listsTo(t, append(bytes.Clone(b), 17), nil, api.ErrShort)
			}
		}
	}
}

func TestListOfSome(t *testing.T) { // P7.1, P7.3: one behind the other, with their places and numbers
	code := []byte{3, 16, 0x80, 17, 0x80, 0, 132, 0xFF, 0x80, 167, 0xFF, 0xFB, 21, 0xFF, 178, 0xFF, 0xFF, 167, 0x80, 0, 153, 0x7F, 0xFF, 177}
	want := []api.Instr{
		{At: 0, Op: 3, Size: 1},
		{At: 1, Op: 16, A: -128, Size: 2},
		{At: 3, Op: 17, A: -32768, Size: 3},
		{At: 6, Op: 132, A: 255, B: -128, Size: 3},
		{At: 9, Op: 167, A: 4, Size: 3},
		{At: 12, Op: 21, A: 255, Size: 2},
		{At: 14, Op: 178, A: 65535, Size: 3},
		{At: 17, Op: 167, A: 17 - 32768, Size: 3},
		{At: 20, Op: 153, A: 20 + 32767, Size: 3},
		{At: 23, Op: 177, Size: 1},
	}
	listsTo(t, code, want, api.OK)
	for n := range code { // an end where an instruction begins, and one inside of it
		var l []api.Instr
		e := api.OK
		for _, i := range want {
			switch {
			case i.At+i.Size <= n:
				l = append(l, i)
			case i.At < n:
				l, e = nil, api.ErrShort
			}
		}
		listsTo(t, code[:n], l, e)
	}
}

func TestListFirstError(t *testing.T) { // P7.1, P2: the first one's error, with no instruction, wherever it is
	right := []byte{3, 16, 1, 17, 1, 2, 177}
	for _, x := range []struct {
		b []byte
		e api.Errno
	}{{[]byte{200}, api.ErrOp}, {[]byte{11, 17}, api.ErrOp}, {[]byte{255, 17, 0}, api.ErrOp}, {[]byte{17}, api.ErrShort}, {[]byte{17, 200}, api.ErrShort}, {[]byte{16}, api.ErrShort}, {[]byte{0, 203, 17}, api.ErrOp}} {
		listsTo(t, x.b, nil, x.e)
		listsTo(t, slices.Concat(right, x.b), nil, x.e)
		listsTo(t, slices.Concat(make([]byte, api.MaxCode), x.b), nil, x.e)
	}
	for op := range 256 {
		if _, isCode := shapeOf[op]; !isCode { // at the beginning, in the middle, at the end; within an instruction it is none
			b := byte(op)
			listsTo(t, slices.Concat([]byte{b}, right), nil, api.ErrOp)
			listsTo(t, slices.Concat(right, []byte{b}, right), nil, api.ErrOp)
			listsTo(t, slices.Concat(right, []byte{b}), nil, api.ErrOp)
			listsTo(t, slices.Concat(right, []byte{b}, []byte{17}), nil, api.ErrOp)
			lists(t, slices.Concat(right, []byte{17, b, b}, right))
			lists(t, slices.Concat(right, []byte{167, b, b, 16, b}, right))
		}
	}
	listsTo(t, []byte{3, 17, 200, 0, 200, 17}, nil, api.ErrOp)
	listsTo(t, []byte{3, 17, 200, 0, 17, 200}, nil, api.ErrShort)
}

func TestListOfEachPair(t *testing.T) { // P7.1, P7.3: each two bytes ahead of some
	for x := range 256 {
		for y := range 256 {
			for _, tail := range []string{"", "\x00", "\x01\x02\x03", "\x11\xFF\xC8\x10"} {
				lists(t, append([]byte{byte(x), byte(y)}, tail...))
			}
		}
	}
}

func TestListOfSmallCodes(t *testing.T) { // P7.1, P7.3: all codes of few bytes, of some bytes of each kind
	eachCode([]byte{0, 3, 16, 17, 132, 167, 177, 200}, 6, func(code []byte) { lists(t, code) })
}

func TestListOfMany(t *testing.T) { // P7.1, P7.3: more than a method's code may have, and codes by chance
	for _, n := range []int{api.MaxCode, api.MaxCode + 1, 1 << 16, 1 << 18} {
		lists(t, make([]byte, n))
		lists(t, bytes.Repeat([]byte{167}, n))
		lists(t, bytes.Repeat([]byte{16}, n))
		lists(t, append(make([]byte, n), 200))
	}
	chance := rand.New(rand.NewSource(7))
	for range 20000 {
		var code []byte
		for n := chance.Intn(40); len(code) < n; {
			op := chance.Intn(200)
			if _, isCode := shapeOf[op]; isCode || chance.Intn(100) == 0 {
				code = append(code, alone(op)...)
				code[len(code)-1] += byte(chance.Intn(20) / 19)
			}
		}
		code = code[:len(code)-min(len(code), chance.Intn(2))]
		lists(t, code)
	}
}
