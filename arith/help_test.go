package arith_test

import (
	"math"
	"math/big"
	"strings"
	"testing"

	"understudy/api"
	"understudy/arith"
)

// The codes of each call, by their numbers.
var (
	intCodes   = map[int]string{96: "iadd", 100: "isub", 104: "imul", 108: "idiv", 112: "irem", 116: "ineg", 120: "ishl", 122: "ishr", 124: "iushr", 126: "iand", 128: "ior", 130: "ixor"}
	longCodes  = map[int]string{97: "ladd", 101: "lsub", 105: "lmul", 109: "ldiv", 113: "lrem", 117: "lneg", 127: "land", 129: "lor", 131: "lxor"}
	shiftCodes = map[int]string{121: "lshl", 123: "lshr", 125: "lushr"}
	ifCodes    = map[int]string{153: "ifeq", 154: "ifne", 155: "iflt", 156: "ifge", 157: "ifgt", 158: "ifle", 159: "if_icmpeq", 160: "if_icmpne", 161: "if_icmplt", 162: "if_icmpge", 163: "if_icmpgt", 164: "if_icmple"}
)

// called answers the number of the code of that name.
func called(name string) int {
	for _, codes := range []map[int]string{intCodes, longCodes, shiftCodes, ifCodes} {
		for op, s := range codes {
			if s == name {
				return op
			}
		}
	}
	panic(name)
}

// numbers are codes, and what is none, on both sides.
func numbers() []int {
	l := []int{math.MinInt, math.MinInt + 1, math.MinInt + 96, math.MaxInt, math.MaxInt - 1, 1 << 31, -1 << 31}
	for op := range longCodes { // what is the number of a code in its lowest bits alone
		for _, n := range []int{8, 16, 31, 32, 33, 48, 62} {
			l = append(l, 1<<n+op, 1<<n+op-1, -1<<n+op, -1<<n+op-1)
		}
	}
	for op := -300; op < 1000; op++ {
		l = append(l, op)
	}
	return l
}

// ints are numbers of 32 bits at the edges, and beside them; and those beside powers of two.
func ints() []int32 {
	l := []int32{7, -7, 10, 100, -100, 46340, 46341, -46341, 1000000007, 0x55555555, -0x55555556, 0x0F0F0F0F, 0x7FFF0000, math.MinInt32 / 3, math.MaxInt32 / 3}
	for _, n := range []int{0, 1, 2, 3, 4, 5, 6, 7, 8, 15, 16, 29, 30, 31} {
		for d := int32(-2); d <= 2; d++ { // with n 31 these are the least, the greatest, and what lies beside them
			l = append(l, int32(-1)<<n+d, -(int32(-1)<<n)+d)
		}
	}
	return l
}

// wide are numbers of 64 bits at the edges, and beside them; and those of 32 bits and beyond.
func wide() []int64 {
	l := []int64{3037000499, 3037000500, -3037000500, 1000000000000000003, 0x5555555555555555, -0x5555555555555556, 0x0F0F0F0F0F0F0F0F, math.MinInt64 / 3, math.MaxInt64 / 3}
	for _, n := range []int{30, 31, 32, 33, 47, 48, 61, 62, 63} {
		for d := int64(-2); d <= 2; d++ {
			l = append(l, int64(-1)<<n+d, -(int64(-1)<<n)+d)
		}
	}
	for _, n := range ints() {
		l = append(l, int64(n))
	}
	return l
}

// counts are numbers by which to shift: a width, and beside it, of both widths and on both sides.
func counts() []int32 {
	l := ints()
	for n := int32(-140); n <= 140; n++ {
		l = append(l, n)
	}
	return l
}

// mod answers the rest of x by 2^n, not negative.
func mod(x *big.Int, n uint) *big.Int {
	return new(big.Int).Mod(x, new(big.Int).Lsh(big.NewInt(1), n))
}

// wrapped answers x as it wraps round in n bits.
func wrapped(x *big.Int, n uint) int64 {
	half := new(big.Int).Lsh(big.NewInt(1), n-1)
	return new(big.Int).Sub(mod(new(big.Int).Add(x, half), n), half).Int64()
}

// byHand answers what the code of that name makes of x and y, worked out with numbers that have no end; whether it divides by 0 beside it.
func byHand(name string, x, y int64) (int64, api.Errno) {
	width := uint(32)
	if name[0] == 'l' {
		width = 64
	}
	a, b, z := big.NewInt(x), big.NewInt(y), new(big.Int)
	by := uint(mod(b, map[uint]uint{32: 5, 64: 6}[width]).Uint64())
	switch what := name[1:]; what {
	case "add":
		z.Add(a, b)
	case "sub":
		z.Sub(a, b)
	case "mul":
		z.Mul(a, b)
	case "div", "rem":
		if y == 0 {
			return 0, api.ErrNone
		}
		rest := new(big.Int)
		z.QuoRem(a, b, rest) // it cuts towards 0
		if what == "rem" {
			z = rest
		}
	case "neg":
		z.Neg(a)
	case "shl":
		z.Lsh(a, by)
	case "shr":
		z.Div(a, new(big.Int).Lsh(big.NewInt(1), by)) // it cuts towards what is less, as the sign that comes in does
	case "ushr":
		z.Rsh(mod(a, width), by)
	case "and":
		z.And(a, b)
	case "or":
		z.Or(a, b)
	case "xor":
		z.Xor(a, b)
	default:
		panic(name)
	}
	return wrapped(z, width), api.OK
}

// leadsByHand tells whether the code of that name leads elsewhere.
func leadsByHand(name string, a, b int32) bool {
	if !strings.HasPrefix(name, "if_icmp") {
		b = 0
	}
	sign := big.NewInt(int64(a)).Cmp(big.NewInt(int64(b)))
	return map[string]bool{"eq": sign == 0, "ne": sign != 0, "lt": sign < 0, "ge": sign >= 0, "gt": sign > 0, "le": sign <= 0}[name[len(name)-2:]]
}

// intTo asks Int for that answer.
func intTo(t *testing.T, op int, a, b, want int32, e api.Errno) {
	t.Helper()
	if n, f := arith.Int(op, a, b); n != want || f != e {
		t.Errorf("Int(%d %s, %d, %d): %d, %d; want %d, %d", op, intCodes[op], a, b, n, f, want, e)
	}
}

// longTo asks Long for that answer.
func longTo(t *testing.T, op int, a, b, want int64, e api.Errno) {
	t.Helper()
	if n, f := arith.Long(op, a, b); n != want || f != e {
		t.Errorf("Long(%d %s, %d, %d): %d, %d; want %d, %d", op, longCodes[op], a, b, n, f, want, e)
	}
}

// shiftTo asks Shift for that answer.
func shiftTo(t *testing.T, op int, a int64, b int32, want int64, e api.Errno) {
	t.Helper()
	if n, f := arith.Shift(op, a, b); n != want || f != e {
		t.Errorf("Shift(%d %s, %d, %d): %d, %d; want %d, %d", op, shiftCodes[op], a, b, n, f, want, e)
	}
}

// ifTo asks If for that answer.
func ifTo(t *testing.T, op int, a, b int32, want bool, e api.Errno) {
	t.Helper()
	if is, f := arith.If(op, a, b); is != want || f != e {
		t.Errorf("If(%d %s, %d, %d): %v, %d; want %v, %d", op, ifCodes[op], a, b, is, f, want, e)
	}
}
