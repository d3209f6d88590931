package ops_test

import (
	"bytes"
	"math"
	"slices"
	"testing"

	"understudy/api"
	"understudy/ops"
)

func TestEncodeEach(t *testing.T) { // P6.1, P1, P2, P6: each number as a code, with A and B at all ends, held against what is laid by hand
	for op := -2; op < 260; op++ {
		for _, a := range ends() {
			for _, b := range ends() {
				i := api.Instr{Op: op, A: a, B: b}
				want, e := encodeByHand(i)
				if c, f := ops.Encode(i); !bytes.Equal(c, want) || f != e {
					t.Fatalf("Encode of %+v: %x, %d; want %x, %d", i, c, f, want, e)
				}
			}
		}
	}
}

func TestEncodeNoCode(t *testing.T) { // P6.1, P2: ErrOp is ahead of all else
	for _, op := range numbers() {
		if _, isCode := byCode[op]; isCode {
			continue
		}
		for _, i := range []api.Instr{{}, {A: 1, B: 1}, {A: math.MinInt, B: math.MaxInt, At: -1}, {At: api.MaxCode + 1, Size: 3}} {
			i.Op = op
			encodesTo(t, i, nil, api.ErrOp)
		}
	}
}

func TestEncodeOfEachShape(t *testing.T) { // P6.1: A and B at the ends of what the shape can hold, and one beyond
	for _, r := range rows() {
		s := spans[r.shape]
		if r.shape == 't' {
			continue // its A is a place
		}
		for _, a := range []int{s.a.least, s.a.most} {
			for _, b := range []int{s.b.least, s.b.most} {
				i := api.Instr{Op: r.op, A: a, B: b}
				encodes(t, i)
				if c, e := ops.Encode(i); len(c) != s.size || e != api.OK {
					t.Errorf("%s, %d, %d: %x, %d", r.name, a, b, c, e)
				}
			}
		}
		for _, d := range []int{1, 2, 256, 1 << 16, 1 << 32} {
			for _, i := range []api.Instr{{A: s.a.least - d}, {A: s.a.most + d}, {B: s.b.least - d}, {B: s.b.most + d}, {A: s.a.most + d, B: s.b.most + d}, {A: s.a.least - d, B: s.b.least}} {
				i.Op = r.op
				encodesTo(t, i, nil, api.ErrArg)
			}
		}
	}
}

func TestEncodeEnds(t *testing.T) { // P6.1: some of them, byte by byte
	for _, x := range []struct {
		op, a, b int
		want     string
	}{
		{0, 0, 0, "\x00"}, {177, 0, 0, "\xB1"},
		{16, -128, 0, "\x10\x80"}, {16, 127, 0, "\x10\x7F"}, {16, -1, 0, "\x10\xFF"},
		{17, -32768, 0, "\x11\x80\x00"}, {17, 32767, 0, "\x11\x7F\xFF"}, {17, -2, 0, "\x11\xFF\xFE"},
		{18, 0, 0, "\x12\x00"}, {18, 255, 0, "\x12\xFF"}, {188, 10, 0, "\xBC\x0A"},
		{20, 65535, 0, "\x14\xFF\xFF"}, {184, 258, 0, "\xB8\x01\x02"},
		{132, 255, -128, "\x84\xFF\x80"}, {132, 0, 127, "\x84\x00\x7F"},
	} {
		encodesTo(t, api.Instr{Op: x.op, A: x.a, B: x.b}, []byte(x.want), api.OK)
	}
}

func TestEncodeLeads(t *testing.T) { // P6.1, P6, the limit MaxCode: At and A of t
	for _, r := range rows() {
		if r.shape != 't' {
			continue
		}
		for _, at := range ends() {
			for _, a := range ends() {
				encodes(t, api.Instr{At: at, Op: r.op, A: a})
				encodes(t, api.Instr{At: at, Op: r.op, A: at + a})
			}
		}
		op := byte(r.op)
		for _, x := range []struct {
			at, a int
			want  []byte
		}{
			{0, 0, []byte{op, 0, 0}}, {0, 4096, []byte{op, 0x10, 0}}, {4096, 0, []byte{op, 0xF0, 0}}, {4096, 4096, []byte{op, 0, 0}},
			{5, 4, []byte{op, 0xFF, 0xFF}}, {4, 5, []byte{op, 0, 1}}, {1, 4096, []byte{op, 0x0F, 0xFF}}, {4095, 0, []byte{op, 0xF0, 1}},
		} {
			encodesTo(t, api.Instr{At: x.at, Op: r.op, A: x.a}, x.want, api.OK)
		}
		for _, x := range [][2]int{{-1, 0}, {-1, -1}, {0, -1}, {4097, 4096}, {4096, 4097}, {4097, 4097}, {4097, 0}, {0, 4097}, {-1, 4097}, {0, 32767}, {0, 32768}, {32768, 0}, {math.MinInt, math.MinInt}, {math.MaxInt, math.MaxInt}, {math.MaxInt, math.MinInt}, {math.MinInt, math.MaxInt}, {math.MaxInt, -1}, {1, math.MinInt}} {
			encodesTo(t, api.Instr{At: x[0], Op: r.op, A: x[1]}, nil, api.ErrArg)
		}
		for _, b := range []int{1, -1, 255, 256, math.MinInt, math.MaxInt} { // there is no B
			encodesTo(t, api.Instr{At: 4, Op: r.op, A: 4, B: b}, nil, api.ErrArg)
		}
	}
}

func TestEncodeWithoutSizeAndAt(t *testing.T) { // P6.1: Size does not count, At for t alone
	for _, r := range rows() {
		i := api.Instr{Op: r.op, A: min(3, spans[r.shape].a.most), B: min(2, spans[r.shape].b.most)}
		want, e := ops.Encode(i)
		if e != api.OK {
			t.Errorf("%+v: %d", i, e)
		}
		for _, n := range ends() {
			j := i
			j.Size = n
			encodesTo(t, j, want, api.OK)
			if r.shape != 't' {
				j.At = n
				encodesTo(t, j, want, api.OK)
			}
		}
	}
}

func TestEncodeAnswersNewMemory(t *testing.T) { // P4, P5
	for _, r := range rows() {
		i := api.Instr{Op: r.op}
		first, _ := ops.Encode(i)
		second, _ := ops.Encode(i)
		for k := range first {
			first[k] = 0xEE
		}
		_ = append(first, 0xEE, 0xEE, 0xEE)
		if want, _ := encodeByHand(i); !bytes.Equal(second, want) {
			t.Errorf("an answer behind a change of another: %x; want %x", second, want)
		}
		encodes(t, i)
	}
}

func TestEncodeUndoesDecode(t *testing.T) { // P6.3
	few := []byte{0, 1, 2, 0x7F, 0x80, 0x81, 0xFE, 0xFF}
	for _, r := range rows() {
		for _, head := range heads()[:7] { // the last of them is behind MaxCode
			for _, x := range few {
				for _, y := range few {
					b := slices.Concat(head, []byte{byte(r.op), x, y})
					i, e := ops.Decode(b, len(head))
					if e != api.OK {
						t.Fatalf("%x: %d", b[len(head):], e)
					}
					if r.shape == 't' && (i.A < 0 || i.A > api.MaxCode) { // it leads out of all code: read, and not written
						encodesTo(t, i, nil, api.ErrArg)
						continue
					}
					encodesTo(t, i, b[i.At:i.At+i.Size], api.OK)
				}
			}
		}
	}
	b := append(make([]byte, api.MaxCode+1), 167, 0xFF, 0xFF) // it begins behind all code
	i, _ := ops.Decode(b, api.MaxCode+1)
	encodesTo(t, i, nil, api.ErrArg)
}

func TestDecodeUndoesEncode(t *testing.T) { // P6.3
	count := 0
	for _, r := range rows() {
		for _, a := range ends() {
			for _, b := range ends() {
				for _, at := range []int{0, 7, api.MaxCode} {
					i := api.Instr{At: at, Op: r.op, A: a, B: b}
					c, e := ops.Encode(i)
					if e != api.OK {
						continue
					}
					count++
					i.Size = len(c)
					whole := append(make([]byte, at, at+10), c...)
					if j, e := ops.Decode(append(whole, 1, 2, 3), at); i != j || e != api.OK {
						t.Fatalf("Decode of %x at %d: %+v, %d; want %+v", c, at, j, e, i)
					}
				}
			}
		}
	}
	if count < 1000 {
		t.Errorf("%d of them were written", count)
	}
}

func TestCodeOfMany(t *testing.T) { // P6.3: one behind the other
	var code []byte
	var l []api.Instr
	for n := range 20 {
		for _, r := range rows() {
			s := spans[r.shape]
			i := api.Instr{At: len(code), Op: r.op, A: max(s.a.least, min(s.a.most, n*37-300)), B: max(s.b.least, min(s.b.most, 100-n*11))}
			if r.shape == 't' {
				i.A = n * 200
			}
			if len(code) > api.MaxCode-3 {
				break
			}
			b, e := ops.Encode(i)
			if e != api.OK {
				t.Fatalf("%+v: %d", i, e)
			}
			i.Size = len(b)
			code, l = append(code, b...), append(l, i)
		}
	}
	at := 0
	for _, want := range l {
		i, e := ops.Decode(code, at)
		if i != want || e != api.OK {
			t.Fatalf("at %d: %+v, %d; want %+v", at, i, e, want)
		}
		at += i.Size
	}
	decodesTo(t, code, at, api.Instr{}, api.ErrShort)
}
