package ops_test

import (
	"bytes"
	"math"
	"slices"
	"testing"

	"understudy/api"
	"understudy/ops"
)

// heads are bytes ahead of an instruction: none, some, as many as code has, more.
func heads() [][]byte {
	return [][]byte{nil, {0}, {0xFF}, {17, 0}, {167, 0, 3}, make([]byte, 100), make([]byte, api.MaxCode), make([]byte, 40000)}
}

func TestDecodePlaces(t *testing.T) { // P6.1, P1, P2, P6: a place that is none, and the end
	for _, b := range [][]byte{nil, {}, {0}, {200}, {17}, {17, 1}, {17, 1, 2}, {0, 0, 0, 0}, {255, 255, 255}, make([]byte, api.MaxCode)} {
		n := len(b)
		for _, at := range []int{-1, -2, -3, -n, -n - 1, -256, math.MinInt32, math.MinInt, math.MinInt + 1} {
			if at < 0 {
				decodesTo(t, b, at, api.Instr{}, api.ErrArg)
			}
		}
		for _, at := range []int{n + 1, n + 2, n + 3, 2*n + 1, n + 256, math.MaxInt32, math.MaxInt - 1, math.MaxInt} {
			decodesTo(t, b, at, api.Instr{}, api.ErrArg)
		}
		decodesTo(t, b, n, api.Instr{}, api.ErrShort)
	}
}

func TestDecodeEachByte(t *testing.T) { // P6.1, P2: each byte as a code, with all of its bytes, fewer, more, at the beginning and behind others
	for op := range 256 {
		_, isCode := byCode[op]
		for _, head := range heads() {
			at := len(head)
			for _, tail := range [][]byte{nil, {0}, {0, 0}, {1, 2}, {0x7F, 0xFF}, {0x80, 0}, {0xFF, 0xFE}, {0xFF, 0xFF, 0xFF}, {1, 2, 3, 4}, bytes.Repeat([]byte{9}, 500)} {
				b := slices.Concat(head, []byte{byte(op)}, tail)
				decodes(t, b, at)
				if !isCode { // ErrOp is ahead of what is missing
					decodesTo(t, b, at, api.Instr{}, api.ErrOp)
				}
			}
		}
	}
}

func TestDecodeShort(t *testing.T) { // P6.1: one byte fewer, or two
	for _, r := range rows() {
		size := spans[r.shape].size
		b := []byte{9, byte(r.op), 1, 1}
		for n := 1; n < size; n++ {
			decodesTo(t, b[:1+n], 1, api.Instr{}, api.ErrShort)
			decodesTo(t, b[1:1+n], 0, api.Instr{}, api.ErrShort)
		}
		if i, e := ops.Decode(b[:1+size], 1); i.Op != r.op || i.At != 1 || i.Size != size || e != api.OK {
			t.Errorf("%s with all of its bytes: %+v, %d", r.name, i, e)
		}
	}
}

func TestDecodeOperands(t *testing.T) { // P6.1: each code, each of its bytes at each of its values
	few := []byte{0, 1, 0x7F, 0x80, 0xFE, 0xFF}
	for _, r := range rows() {
		for x := range 256 {
			for _, y := range few {
				for _, at := range []int{0, 3} {
					head := make([]byte, at)
					decodes(t, append(head, byte(r.op), byte(x), y), at)
					decodes(t, append(head, byte(r.op), y, byte(x)), at)
				}
			}
		}
	}
}

func TestDecodeAllOperands(t *testing.T) { // P6.1: all that two bytes can be, once in each shape
	for _, name := range []string{"sipush", "ldc2_w", "goto", "iinc", "bipush", "aload", "nop"} {
		b := []byte{0, byte(called(name)), 0, 0}
		for x := range 1 << 16 {
			b[2], b[3] = byte(x>>8), byte(x)
			want, _ := decodeByHand(b, 1)
			if i, e := ops.Decode(b, 1); i != want || e != api.OK {
				t.Fatalf("Decode of %x: %+v, %d; want %+v", b, i, e, want)
			}
		}
	}
}

func TestDecodeEnds(t *testing.T) { // P6.1, P6: the ends of what operands can be, of t places ahead of the beginning and far behind too
	for _, x := range []struct {
		b     string
		at    int
		a, b2 int
	}{
		{"\x10\x80", 0, -128, 0}, {"\x10\x7F", 0, 127, 0}, {"\x10\xFF", 0, -1, 0},
		{"\x11\x80\x00", 0, -32768, 0}, {"\x11\x7F\xFF", 0, 32767, 0}, {"\x11\xFF\xFF", 0, -1, 0}, {"\x11\x00\xFF", 0, 255, 0},
		{"\x12\xFF", 0, 255, 0}, {"\x12\x80", 0, 128, 0}, {"\x15\x00", 0, 0, 0}, {"\xBC\xFF", 0, 255, 0},
		{"\x14\xFF\xFF", 0, 65535, 0}, {"\x14\x80\x00", 0, 32768, 0}, {"\xB2\x01\x02", 0, 258, 0},
		{"\x84\xFF\x80", 0, 255, -128}, {"\x84\x80\x7F", 0, 128, 127}, {"\x84\x00\xFF", 0, 0, -1},
		{"\xA7\x80\x00", 0, -32768, 0}, {"\xA7\xFF\xFF", 0, -1, 0}, {"\xA7\x7F\xFF", 0, 32767, 0}, {"\xA7\x00\x00", 0, 0, 0},
		{"\x00\x00\xA7\xFF\xFD", 2, -1, 0}, {"\x00\x00\xA7\xFF\xFE", 2, 0, 0}, {"\x00\x00\xC7\x00\x03", 2, 5, 0}, {"\x00\x99\x80\x00", 1, -32767, 0}, {"\x00\x99\x7F\xFF", 1, 32768, 0},
	} {
		i, e := ops.Decode([]byte(x.b), x.at)
		want := api.Instr{At: x.at, Op: int(x.b[x.at]), A: x.a, B: x.b2, Size: len(x.b) - x.at}
		if i != want || e != api.OK {
			t.Errorf("Decode of %x at %d: %+v, %d; want %+v", x.b, x.at, i, e, want)
		}
	}
	for _, at := range []int{api.MaxCode - 3, api.MaxCode, api.MaxCode + 1, 1 << 15, 1<<20 - 3} { // what is read has no bound of its own
		b := make([]byte, 1<<20)
		copy(b[at:], "\xA7\x7F\xFF")
		decodesTo(t, b, at, api.Instr{At: at, Op: 167, A: at + 32767, Size: 3}, api.OK)
		copy(b[at:], "\xA7\x80\x00")
		decodesTo(t, b, at, api.Instr{At: at, Op: 167, A: at - 32768, Size: 3}, api.OK)
	}
}

func TestDecodeWithinOthers(t *testing.T) { // P6.1: each place is a beginning, whatever it is a part of
	b := []byte("\x11\x84\x01\xFF\xA7\x11\x10\xC8\x14\xBC\xB2\x00\x84\x99")
	for at := -2; at <= len(b)+2; at++ {
		for n := max(0, at-1); n <= len(b); n++ {
			decodes(t, b[:n], at)
		}
	}
}
