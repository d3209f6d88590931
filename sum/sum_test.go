package sum_test

import (
	"bytes"
	"hash/crc32"
	"testing"

	"understudy/api"
	"understudy/sum"
)

// bitByBit tells the sum of b as the chapter's words go, bit by bit.
func bitByBit(b []byte) uint32 {
	s := uint32(0xFFFFFFFF)
	for _, c := range b {
		for range 8 {
			one := s%2 != uint32(c%2)
			s, c = s/2, c/2
			if one {
				s ^= 0xEDB88320
			}
		}
	}
	return s ^ 0xFFFFFFFF
}

// pattern answers n bytes that a short rule makes.
func pattern(seed uint64, n int) []byte {
	b := make([]byte, n)
	for i := range b {
		seed = seed*6364136223846793005 + 1442695040888963407
		b[i] = byte(seed >> 56)
	}
	return b
}

// hasSum asks for the sum of b, and that b stays as it is.
func hasSum(t *testing.T, b []byte, want uint32) {
	t.Helper()
	before := bytes.Clone(b)
	if s := sum.Sum(b); s != want {
		t.Errorf("Sum of %d bytes %.20x: %08X; want %08X", len(b), b, s, want)
	}
	if !bytes.Equal(b, before) {
		t.Errorf("Sum changed %.20x into %.20x", before, b)
	}
}

func TestSumExamples(t *testing.T) { // P3.1, the chapter's example and the third of the whole
	hasSum(t, []byte("123456789"), 0xCBF43926)
}

func TestSumOfFew(t *testing.T) { // P3.1, P3
	for _, b := range [][]byte{nil, {}} {
		hasSum(t, b, 0)
	}
	for _, x := range []struct {
		b    string
		want uint32
	}{
		{"\x00", 0xD202EF8D},
		{"\xFF", 0xFF000000},
		{"a", 0xE8B7BE43},
		{"abc", 0x352441C2},
		{"\x00\x00\x00\x00", 0x2144DF1C},
		{"\xFF\xFF\xFF\xFF", 0xFFFFFFFF},
	} {
		hasSum(t, []byte(x.b), x.want)
	}
}

func TestSumOfEveryByte(t *testing.T) { // P3.1
	every := make([]byte, 256)
	for i := range every {
		every[i] = byte(i)
		for n := 1; n <= 5; n++ {
			b := bytes.Repeat([]byte{byte(i)}, n)
			hasSum(t, b, bitByBit(b))
		}
		for _, b := range [][]byte{{0, byte(i)}, {byte(i), 0}, {0xFF, byte(i), 0x80}} {
			hasSum(t, b, bitByBit(b))
		}
	}
	hasSum(t, every, 0x29058C73)
}

func TestSumOfMany(t *testing.T) { // P3.1
	for n := range 300 {
		b := pattern(uint64(n), n)
		hasSum(t, b, bitByBit(b))
		hasSum(t, b, crc32.ChecksumIEEE(b))
	}
	for _, n := range []int{1 << 12, 1<<16 + 1, api.MaxFrame, api.MaxFrame + 1, 3*api.MaxFrame + 5} { // a sum has no bound of its own
		b := pattern(uint64(n), n)
		hasSum(t, b, crc32.ChecksumIEEE(b))
		clear(b)
		hasSum(t, b, crc32.ChecksumIEEE(b))
	}
}

func TestSumHangsOnEveryBit(t *testing.T) { // P3.1
	b := pattern(5, 40)
	s := sum.Sum(b)
	for i := range 8 * len(b) {
		b[i/8] ^= 1 << (i % 8)
		if sum.Sum(b) == s {
			t.Errorf("bit %d does not count", i)
		}
		b[i/8] ^= 1 << (i % 8)
	}
}

func TestSumKeepsNothing(t *testing.T) { // P4, P5
	b := []byte("123456789 and what stands behind")
	for range 3 {
		hasSum(t, b[:9], 0xCBF43926)
		hasSum(t, b[9:], bitByBit(b[9:]))
		hasSum(t, nil, 0)
	}
	copy(b, "987654321")
	hasSum(t, b[:9], bitByBit([]byte("987654321")))
}
