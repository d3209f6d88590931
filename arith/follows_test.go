package arith_test

import (
	"math/rand"
	"testing"

	"understudy/api"
	"understudy/arith"
)

// pairsByChance are numbers of 64 bits by chance, the same each time: great ones, and small ones as often.
func pairsByChance(n int) [][2]int64 {
	r := rand.New(rand.NewSource(13))
	l := make([][2]int64, n)
	for k := range l {
		l[k] = [2]int64{int64(r.Uint64()) >> r.Intn(64), int64(r.Uint64()) >> r.Intn(64)}
	}
	return l
}

// intPairs are numbers of 32 bits: at the edges, and by chance.
func intPairs() [][2]int32 {
	var l [][2]int32
	for _, a := range ints() {
		for _, b := range ints() {
			l = append(l, [2]int32{a, b})
		}
	}
	for _, x := range pairsByChance(50000) {
		l = append(l, [2]int32{int32(x[0]), int32(x[1])}, [2]int32{int32(x[0] >> 32), int32(x[1])})
	}
	return l
}

// taken answers n: the code must be taken.
func taken[N int32 | int64](t *testing.T, n N, e api.Errno) N {
	t.Helper()
	if e != api.OK {
		t.Errorf("refused: %d", e)
	}
	return n
}

// doesInt answers what the code of that name makes.
func doesInt(t *testing.T, name string, a, b int32) int32 {
	t.Helper()
	n, e := arith.Int(called(name), a, b)
	return taken(t, n, e)
}

// doesLong answers what the code of that name makes.
func doesLong(t *testing.T, name string, a, b int64) int64 {
	t.Helper()
	n, e := arith.Long(called(name), a, b)
	return taken(t, n, e)
}

func TestQuotientAndRestMake(t *testing.T) { // P13.3: idiv times b and irem make a
	for _, x := range intPairs() {
		a, b := x[0], x[1]
		if b == 0 {
			continue
		}
		q, r := doesInt(t, "idiv", a, b), doesInt(t, "irem", a, b)
		if n := doesInt(t, "iadd", doesInt(t, "imul", q, b), r); n != a {
			t.Errorf("%d by %d: %d, rest %d, that make %d", a, b, q, r, n)
		}
		if r != 0 && (r < 0) != (a < 0) || max(int64(r), -int64(r)) >= max(int64(b), -int64(b)) {
			t.Errorf("%d by %d: the rest %d", a, b, r)
		}
	}
}

func TestLongQuotientAndRestMake(t *testing.T) { // likewise of longs
	for _, x := range pairsByChance(50000) {
		a, b := x[0], x[1]
		if b == 0 {
			continue
		}
		q, r := doesLong(t, "ldiv", a, b), doesLong(t, "lrem", a, b)
		if n := doesLong(t, "ladd", doesLong(t, "lmul", q, b), r); n != a || r != 0 && (r < 0) != (a < 0) {
			t.Errorf("%d by %d: %d, rest %d, that make %d", a, b, q, r, n)
		}
	}
}

func TestIntIsLongCut(t *testing.T) { // P13.3: for sums, differences, products
	for _, x := range intPairs() {
		a, b := x[0], x[1]
		for _, what := range []string{"add", "sub", "mul"} {
			n, whole := doesInt(t, "i"+what, a, b), doesLong(t, "l"+what, int64(a), int64(b))
			if cut := arith.Narrow(whole); cut != n {
				t.Errorf("i%s of %d and %d: %d; l%s cut: %d", what, a, b, n, what, cut)
			}
		}
	}
}

func TestByChance(t *testing.T) { // P13.1, P13.2: all codes, numbers by chance
	for _, x := range pairsByChance(5000) {
		a, b := x[0], x[1]
		for op, name := range intCodes {
			want, e := byHand(name, int64(int32(a)), int64(int32(b)))
			intTo(t, op, int32(a), int32(b), int32(want), e)
		}
		for op, name := range longCodes {
			want, e := byHand(name, a, b)
			longTo(t, op, a, b, want, e)
		}
		for op, name := range shiftCodes {
			want, _ := byHand(name, a, int64(int32(b)))
			shiftTo(t, op, a, int32(b), want, api.OK)
		}
		for op, name := range ifCodes {
			ifTo(t, op, int32(a), int32(b), leadsByHand(name, int32(a), int32(b)), api.OK)
		}
	}
}
