package arith_test

import (
	"testing"

	"understudy/api"
)

// Numbers of 32 bits at the ends.
const (
	least    = -1 << 31
	greatest = 1<<31 - 1
)

// made is what Int makes of two numbers.
type made struct{ a, b, n int32 }

// makes asks what the code of that name makes.
func makes(t *testing.T, name string, l ...made) {
	t.Helper()
	for _, x := range l {
		intTo(t, called(name), x.a, x.b, x.n, api.OK)
	}
}

func TestIntExamples(t *testing.T) { // the chapter's, and the seventh of the whole
	intTo(t, 108, -7, 2, -3, api.OK)
	intTo(t, 112, -7, 2, -1, api.OK)
	intTo(t, 120, 1, 33, 2, api.OK)
}

func TestIntSums(t *testing.T) { // P13.1: iadd, isub, imul, ineg, which wrap round
	makes(t, "iadd", made{0, 0, 0}, made{2, 3, 5}, made{2, -3, -1}, made{-1, 1, 0}, made{greatest, 0, greatest}, made{greatest, 1, least}, made{least, -1, greatest}, made{least, least, 0}, made{greatest, greatest, -2}, made{least, greatest, -1}, made{greatest - 1, 2, least})
	makes(t, "isub", made{0, 0, 0}, made{2, 3, -1}, made{3, 2, 1}, made{2, -3, 5}, made{0, least, least}, made{-1, least, greatest}, made{least, 1, greatest}, made{greatest, -1, least}, made{least, least, 0}, made{greatest, least, -1}, made{least, greatest, 1})
	makes(t, "imul", made{0, 5, 0}, made{2, 3, 6}, made{-2, 3, -6}, made{-2, -3, 6}, made{least, -1, least}, made{least, least, 0}, made{greatest, greatest, 1}, made{greatest, 2, -2}, made{least, 2, 0}, made{least, 3, least}, made{1 << 16, 1 << 16, 0}, made{1 << 16, 1 << 15, least}, made{46341, 46341, -2147479015})
	makes(t, "ineg", made{0, 0, 0}, made{5, 9, -5}, made{-5, 0, 5}, made{1, 1, -1}, made{-1, 0, 1}, made{greatest, 0, least + 1}, made{least + 1, 0, greatest}, made{least, 0, least}, made{least, least, least})
}

func TestIntQuotients(t *testing.T) { // P13.1: idiv and irem, of all pairs of signs, and at the edges
	makes(t, "idiv", made{7, 2, 3}, made{-7, 2, -3}, made{7, -2, -3}, made{-7, -2, 3}, made{1, 2, 0}, made{-1, 2, 0}, made{0, -5, 0}, made{6, 3, 2}, made{least, -1, least}, made{least, 1, least}, made{least, 2, -1 << 30}, made{least, least, 1}, made{greatest, least, 0}, made{least, greatest, -1}, made{greatest, -1, least + 1}, made{least + 1, -1, greatest})
	makes(t, "irem", made{7, 2, 1}, made{-7, 2, -1}, made{7, -2, 1}, made{-7, -2, -1}, made{1, 2, 1}, made{-1, 2, -1}, made{0, -5, 0}, made{6, 3, 0}, made{least, -1, 0}, made{least, 1, 0}, made{least, 3, -2}, made{least, least, 0}, made{greatest, least, greatest}, made{least, greatest, -1}, made{greatest, -1, 0}, made{least + 1, least, least + 1})
}

func TestIntByNothing(t *testing.T) { // P13.1: ErrNone, and 0 beside it, of idiv and irem alone
	for _, a := range ints() {
		intTo(t, called("idiv"), a, 0, 0, api.ErrNone)
		intTo(t, called("irem"), a, 0, 0, api.ErrNone)
	}
	for op, name := range intCodes {
		if name == "idiv" || name == "irem" {
			continue
		}
		for _, a := range ints() {
			want, e := byHand(name, int64(a), 0)
			if e != api.OK {
				t.Fatal(name)
			}
			intTo(t, op, a, 0, int32(want), api.OK)
		}
	}
}

func TestIntShifts(t *testing.T) { // P13.1: ishl, ishr and iushr go by the lowest 5 bits
	makes(t, "ishl", made{1, 0, 1}, made{1, 1, 2}, made{1, 31, least}, made{1, 32, 1}, made{1, 33, 2}, made{1, -1, least}, made{3, least, 3}, made{3, 31, least}, made{-1, 4, -16}, made{least, 1, 0}, made{1, greatest, least})
	makes(t, "ishr", made{-8, 1, -4}, made{8, 1, 4}, made{-1, 31, -1}, made{-1, 1, -1}, made{least, 31, -1}, made{greatest, 31, 0}, made{greatest, 30, 1}, made{-8, 0, -8}, made{-8, 32, -8}, made{-8, 33, -4}, made{-8, -1, -1}, made{-8, least, -8}, made{-7, 1, -4})
	makes(t, "iushr", made{-8, 1, greatest - 3}, made{8, 1, 4}, made{-1, 31, 1}, made{-1, 1, greatest}, made{least, 31, 1}, made{greatest, 31, 0}, made{greatest, 30, 1}, made{-8, 0, -8}, made{-8, 32, -8}, made{-1, 33, greatest}, made{-8, -1, 1}, made{-8, least, -8})
}

func TestIntBits(t *testing.T) { // P13.1: iand, ior, ixor
	makes(t, "iand", made{6, 3, 2}, made{-1, 5, 5}, made{5, 0, 0}, made{least, -1, least}, made{least, greatest, 0}, made{-2, -3, -4})
	makes(t, "ior", made{6, 3, 7}, made{-1, 5, -1}, made{5, 0, 5}, made{least, 1, least + 1}, made{least, greatest, -1}, made{-2, -3, -1})
	makes(t, "ixor", made{6, 3, 5}, made{-1, 5, -6}, made{5, 0, 5}, made{least, -1, greatest}, made{least, greatest, -1}, made{-2, -3, 3}, made{least, least, 0})
}

func TestIntByHand(t *testing.T) { // P13.1, P1, P6: each code with all pairs of numbers
	for op, name := range intCodes {
		seconds := ints()
		if name[1:] == "shl" || name[1:] == "shr" || name[1:] == "ushr" {
			seconds = counts()
		}
		for _, a := range ints() {
			for _, b := range seconds {
				want, e := byHand(name, int64(a), int64(b))
				intTo(t, op, a, b, int32(want), e)
			}
		}
	}
}
