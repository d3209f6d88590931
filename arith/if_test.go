package arith_test

import (
	"math"
	"math/big"
	"testing"

	"understudy/api"
	"understudy/arith"
)

func TestIfExample(t *testing.T) { // the chapter's
	ifTo(t, 155, -1, 9, true, api.OK)
}

func TestIfOfEach(t *testing.T) { // P13.2: each code by itself, of what is less, equal and greater
	pairs := []struct{ a, b int32 }{{-1, 0}, {0, 0}, {1, 0}, {least, 0}, {greatest, 0}}
	against := []struct{ a, b int32 }{{2, 3}, {3, 3}, {3, 2}, {least, greatest}, {greatest, least}, {least, least}, {greatest, greatest}, {-1, 1}, {1, -1}, {0, least}, {least, least + 1}, {greatest, greatest - 1}}
	for name, x := range map[string]struct{ zero, other string }{ // what comes of the pairs, in order: - stands for no, + for yes
		"eq": {"-+---", "-+---++-----"},
		"ne": {"+-+++", "+-+++--+++++"},
		"lt": {"+--+-", "+--+---+--+-"},
		"ge": {"-++-+", "-++-+++-++-+"},
		"gt": {"--+-+", "--+-+---++-+"},
		"le": {"++-+-", "++-+-+++--+-"},
	} {
		for n, p := range pairs {
			ifTo(t, called("if"+name), p.a, p.b, x.zero[n] == '+', api.OK)
			ifTo(t, called("if_icmp"+name), p.a, p.b, x.zero[n] == '+', api.OK)
		}
		for n, p := range against {
			ifTo(t, called("if_icmp"+name), p.a, p.b, x.other[n] == '+', api.OK)
		}
	}
}

func TestIfOfOneNumber(t *testing.T) { // P13.2: of ifeq to ifle b does not count
	for op := 153; op <= 158; op++ {
		for _, a := range ints() {
			want := leadsByHand(ifCodes[op], a, 0)
			for _, b := range append(ints(), a, -a, a+1, a-1) {
				ifTo(t, op, a, b, want, api.OK)
			}
		}
	}
}

func TestIfByHand(t *testing.T) { // P13.2, P1, P6: each code with all pairs of numbers
	for op, name := range ifCodes {
		for _, a := range ints() {
			for _, b := range ints() {
				ifTo(t, op, a, b, leadsByHand(name, a, b), api.OK)
			}
		}
	}
}

func TestCompare(t *testing.T) { // P13.2
	for _, x := range []struct {
		a, b int64
		n    int32
	}{
		{1, 2, -1}, {2, 1, 1}, {2, 2, 0}, {0, 0, 0}, {-1, 1, -1}, {1, -1, 1},
		{leastLong, greatestLong, -1}, {greatestLong, leastLong, 1}, {leastLong, leastLong, 0}, {greatestLong, greatestLong, 0}, {leastLong, leastLong + 1, -1}, {greatestLong, greatestLong - 1, 1}, {0, leastLong, 1}, {leastLong, 1, -1},
		{1 << 32, 0, 1}, {0, 1 << 32, -1}, {1<<32 + 1, 1, 1}, {-1 << 32, 0, -1}, {1 << 40, 1 << 39, 1}, {1 << 31, least, 1},
	} {
		if n := arith.Compare(x.a, x.b); n != x.n {
			t.Errorf("Compare(%d, %d): %d; want %d", x.a, x.b, n, x.n)
		}
	}
	for _, a := range wide() {
		for _, b := range wide() {
			if n, want := arith.Compare(a, b), big.NewInt(a).Cmp(big.NewInt(b)); int(n) != want {
				t.Errorf("Compare(%d, %d): %d; want %d", a, b, n, want)
			}
		}
	}
}

func TestNarrow(t *testing.T) { // P13.2
	for a, want := range map[int64]int32{
		0: 0, 1: 1, -1: -1, greatest: greatest, least: least, greatest + 1: least, least - 1: greatest, 1<<32 - 1: -1, 1 << 32: 0, 1<<32 + 5: 5, -1 << 32: 0, -1<<32 - 1: -1, -1<<32 + 7: 7,
		leastLong: 0, greatestLong: -1, leastLong + 1: 1, greatestLong - 1: -2, 0x123456789ABCDEF0: math.MinInt32 + 0x1ABCDEF0, 3 << 31: least,
	} {
		if n := arith.Narrow(a); n != want {
			t.Errorf("Narrow(%d): %d; want %d", a, n, want)
		}
	}
	for _, a := range wide() {
		if n, want := arith.Narrow(a), wrapped(big.NewInt(a), 32); int64(n) != want {
			t.Errorf("Narrow(%d): %d; want %d", a, n, want)
		}
	}
}
