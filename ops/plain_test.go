package ops_test

import (
	"math"
	"testing"

	"understudy/api"
	"understudy/ops"
)

// plainTo asks for the plain form of i.
func plainTo(t *testing.T, i, want api.Instr) {
	t.Helper()
	if j := ops.Plain(i); j != want {
		t.Errorf("Plain of %+v: %+v; want %+v", i, j, want)
	}
}

func TestPlainOfEach(t *testing.T) { // P6.2: all that have a plain form
	for op, want := range map[int][2]int{
		2: {17, -1}, 3: {17, 0}, 4: {17, 1}, 5: {17, 2}, 6: {17, 3}, 7: {17, 4}, 8: {17, 5}, 10: {9, 1},
		26: {21, 0}, 27: {21, 1}, 28: {21, 2}, 29: {21, 3}, 30: {22, 0}, 31: {22, 1}, 32: {22, 2}, 33: {22, 3}, 42: {25, 0}, 43: {25, 1}, 44: {25, 2}, 45: {25, 3},
		59: {54, 0}, 60: {54, 1}, 61: {54, 2}, 62: {54, 3}, 63: {55, 0}, 64: {55, 1}, 65: {55, 2}, 66: {55, 3}, 75: {58, 0}, 76: {58, 1}, 77: {58, 2}, 78: {58, 3},
	} {
		plainTo(t, api.Instr{Op: op}, api.Instr{Op: want[0], A: want[1]})
		plainTo(t, api.Instr{At: 7, Op: op, A: 99, B: 98, Size: 1}, api.Instr{At: 7, Op: want[0], A: want[1], Size: 1})
	}
	for _, a := range ends() {
		plainTo(t, api.Instr{Op: 16, A: a}, api.Instr{Op: 17, A: a})
		plainTo(t, api.Instr{At: 5, Op: 16, A: a, B: a, Size: 2}, api.Instr{At: 5, Op: 17, A: a, Size: 2})
	}
}

func TestPlainOfAll(t *testing.T) { // P6.2, P1, P6: each number as a code, with any A, B, At and Size
	some := []int{0, 1, -1, 5, 200, -32769, api.MaxCode + 1, math.MaxInt, math.MinInt}
	for _, op := range numbers() {
		for _, n := range some {
			for _, m := range some {
				for _, i := range []api.Instr{{At: n, A: m}, {At: m, A: n, B: m}, {A: n, Size: m}, {At: n, A: n, B: m, Size: n}} {
					i.Op = op
					want := plainByHand(i)
					plainTo(t, i, want)
					plainTo(t, want, want) // what is plain stays
				}
			}
		}
	}
}

func TestPlainStays(t *testing.T) { // P6.2: what has no plain form, whatever it is
	count := 0
	for _, op := range numbers() {
		switch op {
		case 2, 3, 4, 5, 6, 7, 8, 10, 16, 26, 27, 28, 29, 30, 31, 32, 33, 42, 43, 44, 45, 59, 60, 61, 62, 63, 64, 65, 66, 75, 76, 77, 78:
			continue
		}
		count++
		for _, i := range []api.Instr{{Op: op}, {At: 1, Op: op, A: 2, B: 3, Size: 4}, {At: -1, Op: op, A: -2, B: -3, Size: -4}, {At: math.MaxInt, Op: op, A: math.MinInt, B: math.MaxInt, Size: math.MinInt}} {
			plainTo(t, i, i)
		}
	}
	if count < 800 {
		t.Errorf("%d of them", count)
	}
}

func TestPlainKeepsWhatItIs(t *testing.T) { // P6.2: of what is read, the plain form has the number that stood there
	for _, r := range rows() {
		b, _ := ops.Encode(api.Instr{Op: r.op})
		i, e := ops.Decode(b, 0)
		if e != api.OK {
			t.Fatalf("%s: %d", r.name, e)
		}
		j := ops.Plain(i)
		if j.At != i.At || j.Size != i.Size || j.B != i.B {
			t.Errorf("%s: %+v; was %+v", r.name, j, i)
		}
		if _, e := ops.Encode(j); e != api.OK && !(j.Op == 9 && j.A == 1) { // lconst_0 alone has no byte for its number
			t.Errorf("%s: %+v has no bytes: %d", r.name, j, e)
		}
	}
}
