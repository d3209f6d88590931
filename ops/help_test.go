package ops_test

import (
	"bytes"
	"math"
	"strconv"
	"strings"
	"testing"

	"understudy/api"
	"understudy/ops"
)

// list is the document's own list of codes, with names and shapes.
const list = "0 nop -; 1 aconst_null -; 2 iconst_m1 -; 3 iconst_0 -; 4 iconst_1 -; 5 iconst_2 -; 6 iconst_3 -; 7 iconst_4 -; 8 iconst_5 -; 9 lconst_0 -; 10 lconst_1 -; 16 bipush b; 17 sipush s; 18 ldc u; 20 ldc2_w c; 21 iload u; 22 lload u; 25 aload u; 26 iload_0 -; 27 iload_1 -; 28 iload_2 -; 29 iload_3 -; 30 lload_0 -; 31 lload_1 -; 32 lload_2 -; 33 lload_3 -; 42 aload_0 -; 43 aload_1 -; 44 aload_2 -; 45 aload_3 -; 46 iaload -; 47 laload -; 50 aaload -; 54 istore u; 55 lstore u; 58 astore u; 59 istore_0 -; 60 istore_1 -; 61 istore_2 -; 62 istore_3 -; 63 lstore_0 -; 64 lstore_1 -; 65 lstore_2 -; 66 lstore_3 -; 75 astore_0 -; 76 astore_1 -; 77 astore_2 -; 78 astore_3 -; 79 iastore -; 80 lastore -; 83 aastore -; 87 pop -; 89 dup -; 90 dup_x1 -; 95 swap -; 96 iadd -; 97 ladd -; 100 isub -; 101 lsub -; 104 imul -; 105 lmul -; 108 idiv -; 109 ldiv -; 112 irem -; 113 lrem -; 116 ineg -; 117 lneg -; 120 ishl -; 121 lshl -; 122 ishr -; 123 lshr -; 124 iushr -; 125 lushr -; 126 iand -; 127 land -; 128 ior -; 129 lor -; 130 ixor -; 131 lxor -; 132 iinc i; 133 i2l -; 136 l2i -; 148 lcmp -; 153 ifeq t; 154 ifne t; 155 iflt t; 156 ifge t; 157 ifgt t; 158 ifle t; 159 if_icmpeq t; 160 if_icmpne t; 161 if_icmplt t; 162 if_icmpge t; 163 if_icmpgt t; 164 if_icmple t; 165 if_acmpeq t; 166 if_acmpne t; 167 goto t; 172 ireturn -; 173 lreturn -; 176 areturn -; 177 return -; 178 getstatic c; 179 putstatic c; 180 getfield c; 181 putfield c; 182 invokevirtual c; 183 invokespecial c; 184 invokestatic c; 187 new c; 188 newarray u; 189 anewarray c; 190 arraylength -; 191 athrow -; 192 checkcast c; 193 instanceof c; 194 monitorenter -; 195 monitorexit -; 198 ifnull t; 199 ifnonnull t."

// row is a code of the document's list.
type row struct {
	op    int
	name  string
	shape byte
}

// rows are the codes of the document's list.
func rows() []row {
	var l []row
	for part := range strings.SplitSeq(strings.TrimSuffix(list, "."), "; ") {
		f := strings.Fields(part)
		op, _ := strconv.Atoi(f[0])
		l = append(l, row{op, f[1], f[2][0]})
	}
	return l
}

// table answers the rows by their codes.
func table() map[int]row {
	m := map[int]row{}
	for _, r := range rows() {
		m[r.op] = r
	}
	return m
}

// byCode is the document's list by codes; byName by names.
var byCode, byName = table(), func() map[string]row {
	m := map[string]row{}
	for _, r := range rows() {
		m[r.name] = r
	}
	return m
}()

// called answers the number of the code of that name.
func called(name string) int {
	r, isName := byName[name]
	if !isName {
		panic(name)
	}
	return r.op
}

// span is from which number to which one goes.
type span struct{ least, most int }

// has tells whether n is one of them.
func (s span) has(n int) bool { return n >= s.least && n <= s.most }

// spans are of each shape what A and B can be (of t: what stands in the bytes), and how many bytes all has.
var spans = map[byte]struct {
	a, b span
	size int
}{
	'-': {size: 1},
	'b': {a: span{-128, 127}, size: 2},
	's': {a: span{-32768, 32767}, size: 3},
	'u': {a: span{0, 255}, size: 2},
	'c': {a: span{0, 65535}, size: 3},
	't': {a: span{-32768, 32767}, size: 3},
	'i': {a: span{0, 255}, b: span{-128, 127}, size: 3},
}

// encodeByHand answers the bytes of i, as the chapter tells it.
func encodeByHand(i api.Instr) ([]byte, api.Errno) {
	r, isCode := byCode[i.Op]
	if !isCode {
		return nil, api.ErrOp
	}
	a, s := i.A, spans[r.shape]
	if place := (span{0, 4096}); r.shape == 't' {
		if !place.has(i.At) || !place.has(i.A) {
			return nil, api.ErrArg
		}
		a -= i.At
	}
	if !s.a.has(a) || !s.b.has(i.B) {
		return nil, api.ErrArg
	}
	switch r.shape {
	case '-':
		return []byte{byte(r.op)}, api.OK
	case 'b', 'u':
		return []byte{byte(r.op), byte(a)}, api.OK
	case 'i':
		return []byte{byte(r.op), byte(a), byte(i.B)}, api.OK
	}
	return []byte{byte(r.op), byte(uint16(a) >> 8), byte(a)}, api.OK
}

// decodeByHand answers the instruction at the place at of b, as the chapter tells it.
func decodeByHand(b []byte, at int) (api.Instr, api.Errno) {
	if at < 0 || at > len(b) {
		return api.Instr{}, api.ErrArg
	}
	if at == len(b) {
		return api.Instr{}, api.ErrShort
	}
	r, isCode := byCode[int(b[at])]
	if !isCode {
		return api.Instr{}, api.ErrOp
	}
	size := spans[r.shape].size
	if len(b)-at < size {
		return api.Instr{}, api.ErrShort
	}
	i := api.Instr{At: at, Op: r.op, Size: size}
	switch b = b[at:]; r.shape {
	case 'b':
		i.A = int(int8(b[1]))
	case 'u':
		i.A = int(b[1])
	case 's':
		i.A = int(int16(uint16(b[1])<<8 | uint16(b[2])))
	case 'c':
		i.A = int(b[1])<<8 | int(b[2])
	case 't':
		i.A = at + int(int16(uint16(b[1])<<8|uint16(b[2])))
	case 'i':
		i.A, i.B = int(b[1]), int(int8(b[2]))
	}
	return i, api.OK
}

// plainByHand answers the plain form of i by the names of codes.
func plainByHand(i api.Instr) api.Instr {
	name := byCode[i.Op].name
	switch {
	case name == "bipush":
		return api.Instr{At: i.At, Op: called("sipush"), A: i.A, Size: i.Size}
	case name == "iconst_m1":
		return api.Instr{At: i.At, Op: called("sipush"), A: -1, Size: i.Size}
	case name == "lconst_1":
		return api.Instr{At: i.At, Op: called("lconst_0"), A: 1, Size: i.Size}
	}
	whole, number, isCut := strings.Cut(name, "_")
	a, err := strconv.Atoi(number)
	if !isCut || err != nil || name == "lconst_0" {
		return i
	}
	if whole == "iconst" {
		whole = "sipush"
	}
	return api.Instr{At: i.At, Op: called(whole), A: a, Size: i.Size}
}

// ends are numbers at the ends of what there is, and of what shapes can hold, and beside them.
func ends() []int {
	var l []int
	for _, n := range []int{0, 1 << 7, 1 << 8, api.MaxCode, 1 << 15, 1 << 16, 1 << 31, 1 << 32, 1 << 62} {
		for d := -2; d <= 2; d++ {
			l = append(l, n+d, -n+d)
		}
	}
	return append(l, 5, 100, 1000, math.MaxInt, math.MaxInt-1, math.MinInt, math.MinInt+1, math.MinInt+api.MaxCode, math.MaxInt-api.MaxCode)
}

// numbers are codes and what is none, on both sides.
func numbers() []int {
	l := ends()
	for op := -300; op < 600; op++ {
		l = append(l, op)
	}
	return l
}

// decodes asks what is at the place at of b: held against a reading by hand.
func decodes(t *testing.T, b []byte, at int) {
	t.Helper()
	want, e := decodeByHand(b, at)
	decodesTo(t, b, at, want, e)
}

// decodesTo asks for that answer, with b in memory of its own and with bytes behind its end that don't count.
func decodesTo(t *testing.T, b []byte, at int, want api.Instr, e api.Errno) {
	t.Helper()
	for _, behind := range []string{"", "\x00\x00\x00\x00", "\xFF\xFF\xFF\xFF"} {
		whole := append(append(make([]byte, 0, len(b)+len(behind)), b...), behind...)
		before := bytes.Clone(whole)
		if i, f := ops.Decode(whole[:len(b)], at); i != want || f != e {
			t.Errorf("Decode of %d bytes %.40x at %d: %+v, %d; want %+v, %d", len(b), b, at, i, f, want, e)
		}
		if !bytes.Equal(whole, before) {
			t.Errorf("Decode changed %.40x into %.40x", before, whole)
		}
	}
}

// encodes asks for the bytes of i: held against what is laid by hand.
func encodes(t *testing.T, i api.Instr) {
	t.Helper()
	want, e := encodeByHand(i)
	encodesTo(t, i, want, e)
}

// encodesTo asks for that answer.
func encodesTo(t *testing.T, i api.Instr, want []byte, e api.Errno) {
	t.Helper()
	if b, f := ops.Encode(i); !bytes.Equal(b, want) || f != e {
		t.Errorf("Encode of %+v: %x, %d; want %x, %d", i, b, f, want, e)
	}
}
