package text_test

import (
	"bytes"
	"strings"
	"testing"
	"unicode/utf16"
	"unicode/utf8"

	"understudy/api"
	"understudy/text"
)

// unitBytes answers a unit's bytes, worked out by division as the chapter tells them.
func unitBytes(u int) []byte {
	switch {
	case u >= 1 && u <= 0x7F:
		return []byte{byte(u)}
	case u <= 0x7FF:
		return []byte{byte(0xC0 + u/64), byte(0x80 + u%64)}
	}
	return []byte{byte(0xE0 + u/4096), byte(0x80 + u/64%64), byte(0x80 + u%64)}
}

// textBytes answers the bytes of the units of the text s.
func textBytes(s string) []byte {
	var b []byte
	for _, u := range utf16.Encode([]rune(s)) {
		b = append(b, unitBytes(int(u))...)
	}
	return b
}

// bothWays asks that s has the bytes b, and b the text s.
func bothWays(t *testing.T, s string, b []byte) {
	t.Helper()
	if c, e := text.Encode(s); !bytes.Equal(c, b) || e != api.OK {
		t.Errorf("Encode(%q): %x, %d; want %x", s, c, e, b)
	}
	if r, e := text.Decode(b); r != s || e != api.OK {
		t.Errorf("Decode(%x): %q, %d; want %q", b, r, e, s)
	}
	if n := text.Len(s); n != len(b) {
		t.Errorf("Len(%q): %d; want %d", s, n, len(b))
	}
}

// noText asks that s is refused.
func noText(t *testing.T, s string) {
	t.Helper()
	if b, e := text.Encode(s); len(b) != 0 || e != api.ErrUtf {
		t.Errorf("Encode(%q): %x, %d", s, b, e)
	}
	if n := text.Len(s); n != 0 {
		t.Errorf("Len(%q): %d", s, n)
	}
}

// noBytes asks that b is refused.
func noBytes(t *testing.T, b string) {
	t.Helper()
	if s, e := text.Decode([]byte(b)); s != "" || e != api.ErrUtf {
		t.Errorf("Decode(%x): %q, %d", b, s, e)
	}
}

func TestExamples(t *testing.T) { // P2.1, the chapter's examples and the second of the whole
	bothWays(t, string(rune(0)), []byte{0xC0, 0x80})
	bothWays(t, string(rune(0x10400)), []byte{0xED, 0xA0, 0x81, 0xED, 0xB0, 0x80})
	noBytes(t, "\x00")
}

func TestEdges(t *testing.T) { // P2.1
	for _, x := range []struct {
		c rune
		b string
	}{
		{0, "\xC0\x80"},
		{1, "\x01"},
		{0x7F, "\x7F"},
		{0x80, "\xC2\x80"},
		{0x7FF, "\xDF\xBF"},
		{0x800, "\xE0\xA0\x80"},
		{0xD7FF, "\xED\x9F\xBF"},
		{0xE000, "\xEE\x80\x80"},
		{0xFFFD, "\xEF\xBF\xBD"}, // what a range over a text tells of bytes that are not right
		{0xFFFF, "\xEF\xBF\xBF"},
		{0x10000, "\xED\xA0\x80\xED\xB0\x80"},
		{0x103FF, "\xED\xA0\x80\xED\xBF\xBF"},
		{0x10FC00, "\xED\xAF\xBF\xED\xB0\x80"},
		{0x10FFFF, "\xED\xAF\xBF\xED\xBF\xBF"},
	} {
		bothWays(t, string(x.c), []byte(x.b))
		bothWays(t, "a"+string(x.c)+"b", []byte("a"+x.b+"b"))
	}
}

func TestEmpty(t *testing.T) { // P2.1, P3
	bothWays(t, "", nil)
	bothWays(t, "", []byte{})
}

func TestEveryCodePoint(t *testing.T) { // P2.1, P2.2
	for c := range rune(utf8.MaxRune + 1) {
		if !utf8.ValidRune(c) {
			continue
		}
		s := string(c)
		bothWays(t, s, textBytes(s))
		if b, _ := text.Encode(s); bytes.IndexByte(b, 0) >= 0 {
			t.Errorf("Encode(%q) has a byte 0: %x", s, b)
		}
		if t.Failed() {
			t.FailNow()
		}
	}
}

func TestTexts(t *testing.T) { // P2.1, P2.2
	for _, s := range []string{"java/lang/Object", "()V", "\x00\x00", "a\x00b", "é€𐐀 \uFFFD", "\U0010FFFF\U00010000\uE000\uD7FF", "\uFFFF\u0800\u07FF\u0080\x7F\x01"} {
		bothWays(t, s, textBytes(s))
	}
	var every strings.Builder // far above what a constant pool takes: this layer has no bound
	for c := range rune(utf8.MaxRune + 1) {
		if utf8.ValidRune(c) && c%7 < 3 {
			every.WriteRune(c)
		}
	}
	if s := every.String(); !t.Failed() {
		b := textBytes(s)
		if c, e := text.Encode(s); !bytes.Equal(c, b) || e != api.OK || text.Len(s) != len(b) {
			t.Errorf("Encode of a long text: %d bytes, %d; want %d", len(c), e, len(b))
		}
		if r, e := text.Decode(b); r != s || e != api.OK {
			t.Errorf("Decode of long bytes: %d bytes, %d; want %d", len(r), e, len(s))
		}
	}
}

func TestEncodeRefuses(t *testing.T) { // P2.1, P2
	for _, wrong := range []string{
		"\xED\xA0\x80", "\xED\xAF\xBF", "\xED\xB0\x80", "\xED\xBF\xBF", // D800, DBFF, DC00, DFFF
		"\xED\xA0\x81\xED\xB0\x80",                                                     // a pair is no UTF-8 either
		"\xF4\x90\x80\x80", "\xF4\xBF\xBF\xBF", "\xF5\x80\x80\x80", "\xF7\xBF\xBF\xBF", // above 10FFFF
		"\xF8\x88\x80\x80\x80", "\xFC\x84\x80\x80\x80\x80", "\xFE", "\xFF",
		"\xC0\x80", "\xC1\xBF", "\xE0\x80\x80", "\xE0\x9F\xBF", "\xF0\x80\x80\x80", "\xF0\x8F\xBF\xBF", // longer than they must be
		"\xC3", "\xE2", "\xE2\x82", "\xEF\xBF", "\xF0", "\xF0\x90", "\xF0\x90\x90", // cut short
		"\x80", "\xBF", "\xC3\xC3", "\xE2\x82\x41", "\xF0\x90\x90\x41",
	} {
		for _, s := range []string{wrong, "abc" + wrong, wrong + "abc", "\uFFFD" + wrong + "\uFFFD", "\U00010400" + wrong, wrong + wrong} {
			noText(t, s)
		}
	}
}

func TestDecodeRefuses(t *testing.T) { // P2.1, P2
	for _, wrong := range []string{
		"\x00",
		"\xC3", "\xDF", "\xE2", "\xE2\x82", "\xED", "\xEF\xBF", // a lead without all that follow it
		"\xC3\x41", "\xC3\xC3", "\xE2\x41\x82", "\xE2\x82\x41", "\xE2\x82\xC3", "\xE2\xC3\x82", "\xE2\x82\x00", "\xC3\x00", "\xC3\x7F", "\xC3\xC0",
		"\x80", "\xBF", "\x80\x80", // a follower alone
		"\xC0\x81", "\xC0\xBF", "\xC1\x80", "\xC1\x81", "\xC1\xBF", // longer than they must be
		"\xE0\x80\x80", "\xE0\x81\x81", "\xE0\x82\x80", "\xE0\x9F\xBF",
		"\xF0\x90\x90\x80", "\xF0", "\xF4\x8F\xBF\xBF", "\xF8\x88\x80\x80\x80", "\xFE", "\xFF", // no unit begins so
		"\xED\xA0\x80", "\xED\xA0\x81", "\xED\xAF\xBF", "\xED\xB0\x80", "\xED\xBF\xBF", // a half alone
		"\xED\xB0\x80\xED\xA0\x81", "\xED\xBF\xBF\xED\xAF\xBF", // the wrong way round
		"\xED\xA0\x81\xED\xA0\x81", "\xED\xB0\x80\xED\xB0\x80", "\xED\xA0\x81A", "\xED\xA0\x81\xED\x9F\xBF", "\xED\xA0\x81\xEE\x80\x80",
		"\xED\xA0\x81\xED", "\xED\xA0\x81\xED\xB0", "\xED\xA0\x81\x80", "\xED\xA0\x81\x00", "\xED\xA0\x81\xC0\x80",
	} {
		for _, b := range []string{wrong, "abc" + wrong, wrong + "abc", "\xC0\x80" + wrong, wrong + "\xC0\x80", wrong + wrong} {
			noBytes(t, b)
		}
	}
	for _, b := range []string{"\xED\xA0\x81\xED\xB0\x80\xED\xB0\x80", "\xED\xA0\x81\xED\xA0\x81\xED\xB0\x80", "\xED\xA0\x81\xED\xB0\x80\xED\xA0\x81"} { // a pair, and a half
		noBytes(t, b)
	}
}

func TestEveryHalf(t *testing.T) { // P2.1
	for u := 0xD800; u <= 0xDFFF; u++ {
		half := unitBytes(u)
		noBytes(t, string(half))
		noBytes(t, "a"+string(half)+"b")
		noText(t, string(half))
	}
}

// read answers the text of the bytes b by what every unit has, and whether it is one.
func read(units map[string]int, b string) (string, bool) {
	var us []uint16
	for b != "" {
		n := 1
		for n <= 3 && n <= len(b) {
			if _, ok := units[b[:n]]; ok {
				break
			}
			n++
		}
		if n > 3 || n > len(b) {
			return "", false
		}
		us = append(us, uint16(units[b[:n]]))
		b = b[n:]
	}
	s := utf16.Decode(us)
	for i, u := range utf16.Encode(s) {
		if u != us[i] { // a half without its other one
			return "", false
		}
	}
	return string(s), true
}

func TestEveryFewBytes(t *testing.T) { // P2.1, P2.2
	units := map[string]int{}
	for u := range 1 << 16 {
		units[string(unitBytes(u))] = u
	}
	right := 0
	asks := func(b string) {
		want, ok := read(units, b)
		if !ok {
			noBytes(t, b)
			return
		}
		right++
		bothWays(t, want, []byte(b))
	}
	edges := "\x00\x01\x41\x7F\x80\x81\x9F\xA0\xAF\xB0\xBF\xC0\xC1\xC2\xDF\xE0\xE1\xEC\xED\xEE\xEF\xF0\xF4\xFF"
	for i := range 1 << 16 {
		if i < 1<<8 {
			asks(string([]byte{byte(i)}))
		}
		asks(string([]byte{byte(i >> 8), byte(i)}))
	}
	for n := 3; n <= 4; n++ {
		all := 1
		for range n {
			all *= len(edges)
		}
		for i := range all {
			b := make([]byte, n)
			for j := range b {
				b[j] = edges[i%len(edges)]
				i /= len(edges)
			}
			asks(string(b))
		}
	}
	if right == 0 || t.Failed() {
		t.Errorf("%d of them were right", right)
	}
}

func TestEncodeAnswersNewMemory(t *testing.T) { // P4, P5
	s := "a\x00é"
	first, _ := text.Encode(s)
	second, _ := text.Encode(s)
	for i := range first {
		first[i] = 0xEE
	}
	_ = append(first, 0xEE, 0xEE)
	if !bytes.Equal(second, []byte("a\xC0\x80\xC3\xA9")) {
		t.Errorf("an answer behind a change of another: %x", second)
	}
	if s != "a\x00é" {
		t.Errorf("what was handed in is %q", s)
	}
	bothWays(t, s, second)
}

func TestDecodeKeepsNothing(t *testing.T) { // P4, P5
	whole := []byte("a\xC0\x80\xC3\xA9\xEE\xEE")
	b := whole[:5]
	s, e := text.Decode(b)
	if string(whole) != "a\xC0\x80\xC3\xA9\xEE\xEE" {
		t.Errorf("what was handed in is %x", whole)
	}
	for i := range whole {
		whole[i] = 'z'
	}
	if s != "a\x00é" || e != api.OK {
		t.Errorf("an answer behind a change of what was handed in: %q, %d", s, e)
	}
	if s, e := text.Decode(b); s != "zzzzz" || e != api.OK {
		t.Errorf("Decode of what was changed: %q, %d", s, e)
	}
}
