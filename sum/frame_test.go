package sum_test

import (
	"bytes"
	"encoding/binary"
	"hash/crc32"
	"math"
	"slices"
	"testing"

	"understudy/api"
	"understudy/sum"
)

// head answers the first four bytes of a frame of n bytes.
func head(n uint32) []byte { return binary.BigEndian.AppendUint32(nil, n) }

// frameOf answers the frame of b as the chapter tells it, whatever the number of its bytes.
func frameOf(b []byte) []byte {
	f := append(head(uint32(len(b))), b...)
	return binary.LittleEndian.AppendUint32(f, crc32.ChecksumIEEE(f))
}

// contents are lists that frames are made of: none, one byte of every value, and more.
func contents() [][]byte {
	l := [][]byte{nil, {}, []byte("abc"), make([]byte, 50), bytes.Repeat([]byte{0xFF}, 50), frameOf(nil), frameOf(frameOf([]byte{1}))}
	for i := range 256 {
		l = append(l, []byte{byte(i)})
	}
	for n := range 70 {
		l = append(l, pattern(uint64(n), n))
	}
	for _, n := range []int{255, 256, 257, 65535, 65536, 65537} {
		l = append(l, pattern(uint64(n), n))
	}
	return l
}

// wrapped asks for the frame of b, and answers it.
func wrapped(t *testing.T, b []byte) []byte {
	t.Helper()
	before := bytes.Clone(b)
	f, e := sum.Wrap(b)
	if want := frameOf(before); e != api.OK || !bytes.Equal(f, want) {
		t.Fatalf("Wrap of %d bytes %.20x: %d bytes %.40x, %d; want %.40x", len(b), b, len(f), f, e, want)
	}
	if !bytes.Equal(b, before) {
		t.Fatalf("Wrap changed %.20x into %.20x", before, b)
	}
	return f
}

// opens asks that b begins with a frame of n bytes in which content stands.
func opens(t *testing.T, b, content []byte, n int) {
	t.Helper()
	before := bytes.Clone(b)
	c, m, e := sum.Open(b)
	if !bytes.Equal(c, content) || m != n || e != api.OK {
		t.Errorf("Open of %d bytes %.40x: %.20x, %d, %d; want %.20x, %d", len(b), b, c, m, e, content, n)
	}
	if !bytes.Equal(b, before) {
		t.Errorf("Open changed %.40x into %.40x", before, b)
	}
}

// refused asks that b begins with no frame, for that reason, and that n is told beside it.
func refused(t *testing.T, b []byte, n int, want api.Errno) {
	t.Helper()
	before := bytes.Clone(b)
	c, m, e := sum.Open(b)
	if len(c) != 0 || m != n || e != want {
		t.Errorf("Open of %d bytes %.40x: %.20x, %d, %d; want none, %d, %d", len(b), b, c, m, e, n, want)
	}
	if !bytes.Equal(b, before) {
		t.Errorf("Open changed %.40x into %.40x", before, b)
	}
}

func TestFrameExamples(t *testing.T) { // P3.1, the chapter's example
	none := []byte{0, 0, 0, 0, 0x1C, 0xDF, 0x44, 0x21}
	for _, b := range [][]byte{nil, {}} { // P3
		if f, e := sum.Wrap(b); !bytes.Equal(f, none) || e != api.OK {
			t.Errorf("Wrap of none: %x, %d", f, e)
		}
	}
	opens(t, none, nil, 8)
	one := []byte{0, 0, 0, 1, 0xFF}
	s := bitByBit(one)
	one = append(one, byte(s), byte(s>>8), byte(s>>16), byte(s>>24))
	if f, e := sum.Wrap([]byte{0xFF}); !bytes.Equal(f, one) || e != api.OK {
		t.Errorf("Wrap of FF: %x, %d; want %x", f, e, one)
	}
	opens(t, one, []byte{0xFF}, 9)
}

func TestOpenUndoesWrap(t *testing.T) { // P3.1, P3.2
	for _, b := range contents() {
		f := wrapped(t, b)
		opens(t, f, b, len(b)+8)
		for _, behind := range [][]byte{{0}, {0xFF, 0xFF, 0xFF, 0xFF, 0xFF}, pattern(3, 100), f} {
			opens(t, slices.Concat(f, behind), b, len(b)+8)
		}
	}
}

func TestFramesInARow(t *testing.T) { // P3.2
	l := contents()
	var all []byte
	for _, b := range l {
		all = append(all, wrapped(t, b)...)
	}
	for i, b := range l {
		c, n, e := sum.Open(all)
		if !bytes.Equal(c, b) || n != len(b)+8 || e != api.OK {
			t.Fatalf("frame %d of those in a row: %.20x, %d, %d; want %.20x", i, c, n, e, b)
		}
		all = all[n:]
	}
	refused(t, all, 0, api.ErrShort)
}

func TestFrameOfMaxFrame(t *testing.T) { // P3.1, P3.2, the limit MaxFrame
	for _, n := range []int{api.MaxFrame - 1, api.MaxFrame} {
		b := pattern(uint64(n), n)
		f := wrapped(t, b)
		opens(t, f, b, n+8)
		opens(t, append(slices.Clip(f), 1, 2, 3), b, n+8)
	}
}

func TestWrapRefuses(t *testing.T) { // P3.1, P2, the limit MaxFrame
	for _, n := range []int{api.MaxFrame + 1, api.MaxFrame + 8, 2 * api.MaxFrame, 1 << 24} {
		b := make([]byte, n)
		if f, e := sum.Wrap(b); len(f) != 0 || e != api.ErrLong {
			t.Errorf("Wrap of %d bytes: %d bytes, %d", n, len(f), e)
		}
	}
}

func TestOpenRefusesFew(t *testing.T) { // P3.1, P2
	refused(t, nil, 0, api.ErrShort)
	for n := range 4 {
		for _, c := range []byte{0, 1, 0x10, 0x7F, 0x80, 0xFF} { // ErrShort is ahead, whatever the number would come to
			refused(t, bytes.Repeat([]byte{c}, n), 0, api.ErrShort)
		}
	}
	for n := range 4 {
		refused(t, head(math.MaxUint32)[:n], 0, api.ErrShort)
		refused(t, frameOf(nil)[:n], 0, api.ErrShort)
	}
}

func TestOpenRefusesLong(t *testing.T) { // P3.1, P2, the limit MaxFrame
	for _, n := range []uint32{api.MaxFrame + 1, api.MaxFrame + 2, 2 * api.MaxFrame, 1 << 24, math.MaxInt32 - 8, math.MaxInt32, 1 << 31, math.MaxUint32 - 7, math.MaxUint32} {
		refused(t, head(n), 0, api.ErrLong) // it isn't there whole as well: ErrLong is ahead
		refused(t, append(head(n), 0), 0, api.ErrLong)
		refused(t, append(head(n), pattern(1, 1000)...), 0, api.ErrLong)
	}
	whole := frameOf(pattern(9, api.MaxFrame+1)) // there whole, and its sum is right
	refused(t, whole, 0, api.ErrLong)
	refused(t, append(whole, 1, 2, 3), 0, api.ErrLong)
	whole[len(whole)-4]++ // another sum as well: ErrLong is ahead
	refused(t, whole, 0, api.ErrLong)
}

func TestOpenRefusesCut(t *testing.T) { // P3.1, P2
	for _, b := range [][]byte{nil, {7}, []byte("abc"), pattern(2, 50), pattern(4, 300)} {
		f := wrapped(t, b)
		for n := range f {
			refused(t, f[:n], 0, api.ErrShort)
		}
		f[len(f)/2] ^= 1 // the sum would be another: ErrShort is ahead
		for n := 4; n < len(f); n++ {
			refused(t, f[:n], 0, api.ErrShort)
		}
	}
	whole := frameOf(pattern(6, api.MaxFrame))
	for _, n := range []int{4, 5, 1000, api.MaxFrame - 1, api.MaxFrame, api.MaxFrame + 3, api.MaxFrame + 4, api.MaxFrame + 7} {
		refused(t, whole[:n], 0, api.ErrShort)
	}
	opens(t, whole, whole[4:api.MaxFrame+4], len(whole))
}

func TestOpenRefusesSums(t *testing.T) { // P3.1
	for _, b := range [][]byte{nil, {7}, []byte("abc"), pattern(2, 50)} {
		f := wrapped(t, b)
		at := len(f) - 4
		right := bitByBit(f[:at])
		alone := bitByBit(b) // without the four bytes of the number
		for _, s := range []uint32{right + 1, right - 1, ^right, right ^ 1<<31, right << 8, right >> 8, alone} {
			wrong := binary.LittleEndian.AppendUint32(bytes.Clone(f[:at]), s)
			refused(t, wrong, len(f), api.ErrSum)
			refused(t, append(wrong, f...), len(f), api.ErrSum) // a right one behind it is another
			opens(t, append(wrong, f...)[len(f):], b, len(f))
		}
		refused(t, binary.BigEndian.AppendUint32(bytes.Clone(f[:at]), right), len(f), api.ErrSum) // the wrong way round
	}
	refused(t, make([]byte, 8), 8, api.ErrSum)
	refused(t, make([]byte, 1000), 8, api.ErrSum)
	whole := frameOf(pattern(6, api.MaxFrame))
	whole[1000]++
	refused(t, whole, api.MaxFrame+8, api.ErrSum)
	refused(t, append(whole, 0), api.MaxFrame+8, api.ErrSum)
}

func TestEveryBitTurned(t *testing.T) { // P3.2
	for _, n := range []int{0, 1, 2, 3, 4, 5, 17, 64, 250} {
		for _, b := range [][]byte{make([]byte, n), bytes.Repeat([]byte{0xFF}, n), pattern(uint64(n), n)} {
			f := wrapped(t, b)
			for i := 8 * 4; i < 8*len(f); i++ {
				f[i/8] ^= 1 << (i % 8)
				refused(t, f, len(f), api.ErrSum)
				f[i/8] ^= 1 << (i % 8)
			}
			opens(t, f, b, len(f))
		}
	}
	whole := frameOf(pattern(8, api.MaxFrame))
	for _, i := range []int{8 * 4, 8*4 + 7, 8*1000 + 3, 8*(api.MaxFrame+3) + 7, 8 * (api.MaxFrame + 4), 8*(api.MaxFrame+7) + 7} {
		whole[i/8] ^= 1 << (i % 8)
		refused(t, whole, len(whole), api.ErrSum)
		whole[i/8] ^= 1 << (i % 8)
	}
}

func TestWrapAnswersNewMemory(t *testing.T) { // P4, P5
	whole := []byte("abcdefgh, and what stands behind")
	b := whole[:8]
	first, second := wrapped(t, b), wrapped(t, b)
	for i := range first {
		first[i] = 0xEE
	}
	_ = append(first, 0xEE, 0xEE)
	if string(whole) != "abcdefgh, and what stands behind" {
		t.Errorf("what was handed in is %q", whole)
	}
	if !bytes.Equal(second, frameOf(b)) {
		t.Errorf("an answer behind a change of another: %x", second)
	}
	copy(whole, "ABCDEFGH")
	if !bytes.Equal(second, frameOf([]byte("abcdefgh"))) {
		t.Errorf("an answer behind a change of what was handed in: %x", second)
	}
	wrapped(t, b)
}

func TestOpenAnswersNewMemory(t *testing.T) { // P4, P5
	f := append(wrapped(t, []byte("abcdefgh")), "behind"...)
	before := bytes.Clone(f)
	first, _, _ := sum.Open(f)
	second, _, _ := sum.Open(f)
	for i := range first {
		first[i] = 0xEE
	}
	_ = append(first, 0xEE, 0xEE, 0xEE, 0xEE, 0xEE, 0xEE)
	if !bytes.Equal(f, before) {
		t.Errorf("what was handed in is %x", f)
	}
	if string(second) != "abcdefgh" {
		t.Errorf("an answer behind a change of another: %q", second)
	}
	clear(f)
	if string(second) != "abcdefgh" {
		t.Errorf("an answer behind a change of what was handed in: %q", second)
	}
	refused(t, f, 8, api.ErrSum)
	opens(t, before, []byte("abcdefgh"), 16)
}
