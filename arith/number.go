package arith

import (
	"math/bits"
	"strings"

	"understudy/api"
	"understudy/ops"
)

// The first letters of the names of codes that are alike but for the width of their numbers.
const (
	ints  = "i"
	longs = "l"
)

// workOf answers the name of the code op without that first letter: the empty text where its name has another one.
func workOf(op int, letter string) string {
	does, isOne := strings.CutPrefix(ops.Name(op), letter)
	if !isOne {
		return ""
	}
	return does
}

// signed are numbers of both widths; unsigned are the same bits, read without a sign.
type (
	signed   interface{ int32 | int64 }
	unsigned interface{ uint32 | uint64 }
)

// number answers what comes of a and b, of either width.
func number[N signed](does string, a, b N) (N, api.Errno) {
	switch does {
	case "add":
		return a + b, api.OK
	case "neg":
		a, b = 0, a
		fallthrough // a number turned about is 0 less that number
	case "sub":
		return a - b, api.OK
	case "mul":
		return a * b, api.OK
	case "div", "rem":
		if b == 0 {
			return 0, api.ErrNone
		}
		if does == "rem" {
			return a % b, api.OK
		}
		return a / b, api.OK // the least by -1 wraps round: the language promises it
	case "and":
		return a & b, api.OK
	case "or":
		return a | b, api.OK
	case "xor":
		return a ^ b, api.OK
	}
	return 0, api.ErrOp
}

// shift answers a, of either width, shifted by b. U must be as wide as N.
func shift[N signed, U unsigned](does string, a N, b int32) (N, api.Errno) {
	width := bits.Len64(uint64(^U(0)))
	by := int(b) & (width - 1) // a width is a power of two: these are the lowest bits, whatever b's sign
	switch does {
	case "shl":
		return a << by, api.OK
	case "shr":
		return a >> by, api.OK
	case "ushr":
		return N(U(a) >> by), api.OK
	}
	return 0, api.ErrOp
}
