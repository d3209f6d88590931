package arith_test

import (
	"testing"

	"understudy/api"
)

// Numbers of 64 bits at the ends.
const (
	leastLong    = -1 << 63
	greatestLong = 1<<63 - 1
)

// madeLong is what Long makes of two numbers.
type madeLong struct{ a, b, n int64 }

// makesLong asks what the code of that name makes.
func makesLong(t *testing.T, name string, l ...madeLong) {
	t.Helper()
	for _, x := range l {
		longTo(t, called(name), x.a, x.b, x.n, api.OK)
	}
}

// shifted is what Shift makes of a number.
type shifted struct {
	a int64
	b int32
	n int64
}

// shifts asks what the code of that name makes.
func shifts(t *testing.T, name string, l ...shifted) {
	t.Helper()
	for _, x := range l {
		shiftTo(t, called(name), x.a, x.b, x.n, api.OK)
	}
}

func TestLongSums(t *testing.T) { // P13.1: ladd, lsub, lmul, lneg, which wrap round
	makesLong(t, "ladd", madeLong{0, 0, 0}, madeLong{2, -3, -1}, madeLong{greatest, 1, 1 << 31}, madeLong{1 << 32, 1 << 32, 1 << 33}, madeLong{greatestLong, 1, leastLong}, madeLong{leastLong, -1, greatestLong}, madeLong{leastLong, leastLong, 0}, madeLong{greatestLong, greatestLong, -2}, madeLong{leastLong, greatestLong, -1})
	makesLong(t, "lsub", madeLong{0, 0, 0}, madeLong{2, 3, -1}, madeLong{least, 1, least - 1}, madeLong{0, leastLong, leastLong}, madeLong{-1, leastLong, greatestLong}, madeLong{leastLong, 1, greatestLong}, madeLong{greatestLong, -1, leastLong}, madeLong{leastLong, leastLong, 0}, madeLong{greatestLong, leastLong, -1})
	makesLong(t, "lmul", madeLong{0, 5, 0}, madeLong{-2, 3, -6}, madeLong{-2, -3, 6}, madeLong{least, -1, 1 << 31}, madeLong{1 << 31, 1 << 31, 1 << 62}, madeLong{leastLong, -1, leastLong}, madeLong{leastLong, leastLong, 0}, madeLong{greatestLong, greatestLong, 1}, madeLong{1 << 32, 1 << 32, 0}, madeLong{1 << 32, 1 << 31, leastLong}, madeLong{1 << 62, 4, 0})
	makesLong(t, "lneg", madeLong{0, 0, 0}, madeLong{5, 9, -5}, madeLong{-1, 0, 1}, madeLong{least, 0, 1 << 31}, madeLong{greatestLong, 0, leastLong + 1}, madeLong{leastLong + 1, 7, greatestLong}, madeLong{leastLong, 0, leastLong}, madeLong{leastLong, -1, leastLong})
}

func TestLongQuotients(t *testing.T) { // P13.1: ldiv and lrem, of all pairs of signs, and at the edges
	makesLong(t, "ldiv", madeLong{7, 2, 3}, madeLong{-7, 2, -3}, madeLong{7, -2, -3}, madeLong{-7, -2, 3}, madeLong{-1, 2, 0}, madeLong{least, -1, 1 << 31}, madeLong{leastLong, -1, leastLong}, madeLong{leastLong, 1, leastLong}, madeLong{leastLong, 2, -1 << 62}, madeLong{leastLong, leastLong, 1}, madeLong{greatestLong, leastLong, 0}, madeLong{leastLong, greatestLong, -1}, madeLong{greatestLong, -1, leastLong + 1}, madeLong{1 << 40, 1 << 20, 1 << 20})
	makesLong(t, "lrem", madeLong{7, 2, 1}, madeLong{-7, 2, -1}, madeLong{7, -2, 1}, madeLong{-7, -2, -1}, madeLong{-1, 2, -1}, madeLong{least, -1, 0}, madeLong{leastLong, -1, 0}, madeLong{leastLong, 1, 0}, madeLong{leastLong, 3, -2}, madeLong{leastLong, leastLong, 0}, madeLong{greatestLong, leastLong, greatestLong}, madeLong{leastLong, greatestLong, -1}, madeLong{1<<40 + 5, 1 << 20, 5})
}

func TestLongByNothing(t *testing.T) { // P13.1: ErrNone, and 0 beside it, of ldiv and lrem alone
	for _, a := range wide() {
		longTo(t, called("ldiv"), a, 0, 0, api.ErrNone)
		longTo(t, called("lrem"), a, 0, 0, api.ErrNone)
	}
	for op, name := range longCodes {
		if name == "ldiv" || name == "lrem" {
			continue
		}
		for _, a := range wide() {
			want, e := byHand(name, a, 0)
			if e != api.OK {
				t.Fatal(name)
			}
			longTo(t, op, a, 0, want, api.OK)
		}
	}
	for _, a := range wide() {
		longTo(t, called("ldiv"), a, 1<<32, a/(1<<32), api.OK) // nought in its lowest 32 bits, and yet not 0
		longTo(t, called("lrem"), a, 1<<32, a%(1<<32), api.OK)
	}
}

func TestLongBits(t *testing.T) { // P13.1: land, lor, lxor
	makesLong(t, "land", madeLong{6, 3, 2}, madeLong{-1, 5, 5}, madeLong{5, 0, 0}, madeLong{leastLong, -1, leastLong}, madeLong{leastLong, greatestLong, 0}, madeLong{-1, 1 << 40, 1 << 40})
	makesLong(t, "lor", madeLong{6, 3, 7}, madeLong{-1, 5, -1}, madeLong{5, 0, 5}, madeLong{leastLong, 1, leastLong + 1}, madeLong{leastLong, greatestLong, -1}, madeLong{1 << 40, 1, 1<<40 + 1})
	makesLong(t, "lxor", madeLong{6, 3, 5}, madeLong{-1, 5, -6}, madeLong{5, 0, 5}, madeLong{leastLong, -1, greatestLong}, madeLong{leastLong, leastLong, 0}, madeLong{1 << 40, 1<<40 + 1, 1})
}

func TestLongByHand(t *testing.T) { // P13.1, P1, P6: each code with all pairs of numbers
	for op, name := range longCodes {
		for _, a := range wide() {
			for _, b := range wide() {
				want, e := byHand(name, a, b)
				longTo(t, op, a, b, want, e)
			}
		}
	}
}

func TestShift(t *testing.T) { // P13.1: lshl, lshr and lushr go by the lowest 6 bits
	shifts(t, "lshl", shifted{1, 0, 1}, shifted{1, 1, 2}, shifted{1, 31, 1 << 31}, shifted{1, 32, 1 << 32}, shifted{1, 33, 1 << 33}, shifted{1, 63, leastLong}, shifted{1, 64, 1}, shifted{1, 65, 2}, shifted{1, -1, leastLong}, shifted{3, least, 3}, shifted{3, 63, leastLong}, shifted{leastLong, 1, 0}, shifted{-1, 4, -16}, shifted{1, greatest, leastLong})
	shifts(t, "lshr", shifted{-8, 1, -4}, shifted{8, 1, 4}, shifted{-7, 1, -4}, shifted{-1, 63, -1}, shifted{-1, 1, -1}, shifted{leastLong, 63, -1}, shifted{leastLong, 32, least}, shifted{greatestLong, 63, 0}, shifted{greatestLong, 62, 1}, shifted{-8, 0, -8}, shifted{-8, 64, -8}, shifted{-8, 65, -4}, shifted{-8, -1, -1}, shifted{-8, least, -8})
	shifts(t, "lushr", shifted{-8, 1, greatestLong - 3}, shifted{8, 1, 4}, shifted{-1, 63, 1}, shifted{-1, 32, 1<<32 - 1}, shifted{-1, 1, greatestLong}, shifted{leastLong, 63, 1}, shifted{greatestLong, 63, 0}, shifted{greatestLong, 62, 1}, shifted{-8, 0, -8}, shifted{-8, 64, -8}, shifted{-1, 65, greatestLong}, shifted{-1, 127, 1}, shifted{-8, -1, 1}, shifted{-8, least, -8})
}

func TestShiftByHand(t *testing.T) { // P13.1, P1, P6: each code with all pairs of numbers
	for op, name := range shiftCodes {
		for _, a := range wide() {
			for _, b := range counts() {
				want, _ := byHand(name, a, int64(b))
				shiftTo(t, op, a, b, want, api.OK)
			}
		}
	}
}
