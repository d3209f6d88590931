package arith_test

import (
	"testing"

	"understudy/api"
	"understudy/arith"
	"understudy/ops"
)

// some are numbers that go with what is no code of a call; a divisor 0 is one of them.
var some = []int32{0, 1, -1, 9, 33, least, greatest}

func TestRefused(t *testing.T) { // P13.1, P13.2, P1, P2: ErrOp, and the zero value beside it, whatever the numbers
	for _, op := range numbers() {
		for _, a := range some {
			for _, b := range some {
				if intCodes[op] == "" {
					intTo(t, op, a, b, 0, api.ErrOp)
				}
				if longCodes[op] == "" {
					longTo(t, op, int64(a)<<32, int64(b), 0, api.ErrOp)
					longTo(t, op, int64(a), int64(b)<<32, 0, api.ErrOp)
				}
				if shiftCodes[op] == "" {
					shiftTo(t, op, int64(a)<<32, b, 0, api.ErrOp)
					shiftTo(t, op, int64(a), b, 0, api.ErrOp)
				}
				if ifCodes[op] == "" {
					ifTo(t, op, a, b, false, api.ErrOp)
				}
			}
		}
	}
}

func TestRefusedByName(t *testing.T) { // P13.1, P13.2: codes of the other width and of the other calls, those that only look alike, and what is none
	for _, x := range []struct {
		calls string // which of the four take it
		codes []int
	}{
		{"i", []int{96, 100, 104, 108, 112, 116, 120, 122, 124, 126, 128, 130}},
		{"l", []int{97, 101, 105, 109, 113, 117, 127, 129, 131}},
		{"s", []int{121, 123, 125}},
		{"f", []int{153, 154, 155, 156, 157, 158, 159, 160, 161, 162, 163, 164}},
		{"", []int{132, 133, 136, 148, 165, 166, 167, 198, 199, 21, 22, 46, 47, 54, 55, 172, 173, 9, 10, 18, 20, 182, 193}}, // codes that are none of these
		{"", []int{98, 99, 102, 103, 106, 107, 110, 111, 114, 115, 118, 119, 134, 149, 152, 168, 200}},                      // no codes
		{"", []int{0, -1, -96, 255, 256, 256 + 96, 256 + 97, 256 + 121, 256 + 153, 1<<32 + 96, 1<<32 + 108, -1<<32 + 153}},
	} {
		for _, op := range x.codes {
			got := ""
			for _, b := range []int32{3, 0} {
				if _, e := arith.Int(op, 1, b); e != api.ErrOp {
					got += "i"
				}
				if _, e := arith.Long(op, 1, int64(b)); e != api.ErrOp {
					got += "l"
				}
				if _, e := arith.Shift(op, 1, b); e != api.ErrOp {
					got += "s"
				}
				if _, e := arith.If(op, 1, b); e != api.ErrOp {
					got += "f"
				}
			}
			if got != x.calls+x.calls {
				t.Errorf("%d %s is taken by %q; want %q twice", op, ops.Name(op), got, x.calls)
			}
		}
	}
}

func TestCodesAreThose(t *testing.T) { // the tests' numbers of codes have the document's names
	count := 0
	for _, codes := range []map[int]string{intCodes, longCodes, shiftCodes, ifCodes} {
		for op, name := range codes {
			if ops.Name(op) != name {
				t.Errorf("%d is %s; want %s", op, ops.Name(op), name)
			}
			count++
		}
	}
	if count != 12+9+3+12 {
		t.Errorf("%d codes", count)
	}
}

// told is all that the calls answer of an op and numbers.
type told struct {
	i       int32
	l, s    int64
	f       bool
	c, n    int32
	refused [4]api.Errno
}

// tellAll asks all calls.
func tellAll(op int, a, b int32) told {
	var x told
	w := int64(a)<<32 + int64(b)
	x.i, x.refused[0] = arith.Int(op, a, b)
	x.l, x.refused[1] = arith.Long(op, w, int64(b))
	x.s, x.refused[2] = arith.Shift(op, w, b)
	x.f, x.refused[3] = arith.If(op, a, b)
	x.c, x.n = arith.Compare(w, int64(a)), arith.Narrow(w)
	return x
}

func TestAskedAgain(t *testing.T) { // P5: whatever was asked in between
	first := map[[3]int]told{}
	for round := range 3 {
		for _, op := range numbers() {
			for _, a := range some {
				for _, b := range some {
					key := [3]int{op, int(a), int(b)}
					x := tellAll(op, a, b)
					if round == 0 {
						first[key] = x
					} else if first[key] != x {
						t.Errorf("%v: %+v; was %+v", key, x, first[key])
					}
				}
			}
		}
	}
}
