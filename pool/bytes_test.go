package pool_test

import (
	"bytes"
	"encoding/binary"
	"slices"
	"strings"
	"testing"

	"understudy/api"
	"understudy/pool"
)

func TestExample(t *testing.T) { // P4.1, the chapter's example
	b := []byte{0, 2, 1, 0, 1, 0x41}
	p := []api.Const{{}, {Tag: api.CUtf8, Text: "A"}}
	if c, e := pool.Encode(p); !bytes.Equal(c, b) || e != api.OK {
		t.Errorf("Encode: %x, %d", c, e)
	}
	if q, n, e := pool.Decode(b); !slices.Equal(q, p) || n != 6 || e != api.OK {
		t.Errorf("Decode: %v, %d, %d", q, n, e)
	}
}

func TestBytesOfEachTag(t *testing.T) { // P4.1
	for _, x := range []struct {
		p []api.Const
		b string
	}{
		{[]api.Const{{}}, "\x00\x01"},
		{[]api.Const{{}, {Tag: api.CUtf8}}, "\x00\x02\x01\x00\x00"},
		{[]api.Const{{}, {Tag: api.CUtf8, Text: "\x00\U00010400"}}, "\x00\x02\x01\x00\x08\xC0\x80\xED\xA0\x81\xED\xB0\x80"},
		{[]api.Const{{}, {Tag: api.CInt, N: -2}}, "\x00\x02\x03\xFF\xFF\xFF\xFE"},
		{[]api.Const{{}, {Tag: api.CInt, N: 0x01020304}}, "\x00\x02\x03\x01\x02\x03\x04"},
		{[]api.Const{{}, {Tag: api.CLong, N: -2}}, "\x00\x02\x05\xFF\xFF\xFF\xFF\xFF\xFF\xFF\xFE"},
		{[]api.Const{{}, {Tag: api.CLong, N: 0x0102030405060708}}, "\x00\x02\x05\x01\x02\x03\x04\x05\x06\x07\x08"},
		{[]api.Const{{}, {Tag: api.CClass, A: 2}, {Tag: api.CUtf8, Text: "C"}}, "\x00\x03\x07\x00\x02\x01\x00\x01C"},
		{[]api.Const{{}, {Tag: api.CName, A: 2, B: 3}, {Tag: api.CUtf8, Text: "f"}, {Tag: api.CUtf8, Text: "I"}}, "\x00\x04\x0C\x00\x02\x00\x03\x01\x00\x01f\x01\x00\x01I"},
		{[]api.Const{{}, {Tag: api.CField, A: 2, B: 4}, {Tag: api.CClass, A: 3}, {Tag: api.CUtf8, Text: "C"}, {Tag: api.CName, A: 3, B: 3}}, "\x00\x05\x09\x00\x02\x00\x04\x07\x00\x03\x01\x00\x01C\x0C\x00\x03\x00\x03"},
		{[]api.Const{{}, {Tag: api.CMethod, A: 2, B: 4}, {Tag: api.CClass, A: 3}, {Tag: api.CUtf8, Text: "C"}, {Tag: api.CName, A: 3, B: 3}}, "\x00\x05\x0A\x00\x02\x00\x04\x07\x00\x03\x01\x00\x01C\x0C\x00\x03\x00\x03"},
	} {
		if b := goesRound(t, x.p); string(b) != x.b {
			t.Errorf("Encode of %v: %x; want %x", x.p, b, x.b)
		}
		if q, n, e := pool.Decode([]byte(x.b)); !slices.Equal(q, x.p) || n != len(x.b) || e != api.OK {
			t.Errorf("Decode of %x: %v, %d, %d", x.b, q, n, e)
		}
	}
}

func TestPlacesOfTwoBytes(t *testing.T) { // P4.1, P4.3: a place above 255
	p := texts(600)
	p[1] = api.Const{Tag: api.CClass, A: 0x0201}
	p[2] = api.Const{Tag: api.CName, A: 0x0102, B: 0x0203}
	p[599] = api.Const{Tag: api.CMethod, A: 1, B: 2}
	goesRound(t, p)
}

func TestGreatest(t *testing.T) { // P4.1, P4.3, the limits MaxPool and MaxName together
	p := texts(api.MaxPool)
	for i := range p[1:] {
		p[i+1].Text = strings.Repeat("\u00E9", api.MaxName/2)
	}
	b := goesRound(t, p)
	if len(b) != 2+1023*259 {
		t.Errorf("%d bytes", len(b))
	}
	reads(t, append(b, make([]byte, 1<<20)...), p)
	for _, n := range []int{2, 3, 1000, len(b) - 259, len(b) - 1} {
		noPool(t, b[:n], api.ErrShort)
	}
}

func TestDecodeCut(t *testing.T) { // P4.1: a pool cut short at each of its bytes
	for _, p := range [][]api.Const{{{}}, sample(), texts(30)} {
		b := goesRound(t, p)
		for n := range b {
			noPool(t, b[:n], api.ErrShort)
			noPool(t, slices.Clip(b[:n]), api.ErrShort)
		}
	}
	for _, tag := range tags {
		noPool(t, []byte{0, 2, byte(tag)}, api.ErrShort)
		noPool(t, []byte{0, 2, byte(tag), 0}, api.ErrShort)
	}
	p := sample()
	p[1].A = 99 // leads nowhere as well: that is looked at when all is read
	b := encodeByHand(p)
	for n := range b {
		noPool(t, b[:n], api.ErrShort)
	}
	noPool(t, b, api.ErrPool)
}

func TestDecodeBehind(t *testing.T) { // P4.1: bytes behind the pool
	b := goesRound(t, sample())
	for _, behind := range [][]byte{{0}, {0xFF}, {1, 0, 1}, b, make([]byte, 1<<19)} {
		reads(t, slices.Concat(b, behind), sample())
	}
	reads(t, []byte{0, 1, 0, 2, 99}, []api.Const{{}})
}

func TestDecodeCount(t *testing.T) { // P4.1, P2, the limit MaxPool
	noPool(t, nil, api.ErrShort)
	noPool(t, []byte{}, api.ErrShort)
	for _, c := range []byte{0, 1, 4, 5, 0xFF} {
		noPool(t, []byte{c}, api.ErrShort) // whatever the number would come to
	}
	noPool(t, []byte{0, 0}, api.ErrPool)
	noPool(t, []byte{0, 0, 1, 0, 1, 0x41}, api.ErrPool)
	for _, n := range []int{api.MaxPool + 1, api.MaxPool + 2, 2 * api.MaxPool, 1<<16 - 1} {
		b := binary.BigEndian.AppendUint16(nil, uint16(n))
		noPool(t, b, api.ErrLong) // too few bytes as well: ErrLong is ahead
		noPool(t, append(b, 99), api.ErrLong)
		noPool(t, append(b, 1, 0xFF, 0xFF), api.ErrLong)
		noPool(t, encodeByHand(texts(n)), api.ErrLong) // all of it is there
	}
	noPool(t, []byte{4, 0}, api.ErrShort) // as many as can be: the first is missing
}

func TestDecodeTags(t *testing.T) { // P4.1, P2
	for tag := range 256 {
		if slices.Contains(tags, tag) {
			continue
		}
		noPool(t, []byte{0, 2, byte(tag)}, api.ErrPool) // nothing need stand behind it
		noPool(t, []byte{0, 9, byte(tag)}, api.ErrPool)
		noPool(t, []byte{0, 2, byte(tag), 0, 1, 0x41, 0, 0, 0, 0, 0}, api.ErrPool)
		noPool(t, []byte{0, 3, 1, 0, 1, 0x41, byte(tag)}, api.ErrPool)
		noPool(t, []byte{0, 3, byte(tag), 1, 1, 1}, api.ErrPool)    // a text that is too long behind it
		noPool(t, []byte{0, 3, 1, 1, 1, byte(tag)}, api.ErrUtf)     // and ahead of it
		noPool(t, []byte{0, 3, 7, 0, 99, byte(tag)}, api.ErrPool)   // a place that leads nowhere ahead of it
		noPool(t, []byte{0, 3, 3, 0, 0, byte(tag)}, api.ErrShort)   // the number is missing that stands ahead of it
		noPool(t, []byte{0, 3, 1, 0, 1, 0, byte(tag)}, api.ErrUtf)  // a byte 0 is in no text
		noPool(t, []byte{0, 3, byte(tag), 1, 0, 1, 0}, api.ErrPool) // the first is told
	}
}

func TestDecodeLongTexts(t *testing.T) { // P4.1, P2, the limit MaxName
	for _, n := range []int{api.MaxName + 1, api.MaxName + 2, 2 * api.MaxName, 1 << 15, 1<<16 - 1} {
		b := binary.BigEndian.AppendUint16([]byte{0, 2, 1}, uint16(n))
		noPool(t, b, api.ErrUtf) // too few bytes as well: ErrUtf is ahead
		noPool(t, append(b, 0x41), api.ErrUtf)
		noPool(t, append(b, bytes.Repeat([]byte{0x41}, n-1)...), api.ErrUtf)
		noPool(t, append(b, bytes.Repeat([]byte{0x41}, n)...), api.ErrUtf)
		noPool(t, append(b, make([]byte, n)...), api.ErrUtf)
	}
	whole := append([]byte{0, 2, 1, 1, 0}, bytes.Repeat([]byte{0x41}, api.MaxName)...)
	reads(t, whole, []api.Const{{}, {Tag: api.CUtf8, Text: strings.Repeat("A", api.MaxName)}})
	noPool(t, whole[:len(whole)-1], api.ErrShort)
	noPool(t, whole[:5], api.ErrShort)
	noPool(t, []byte{0, 2, 1, 1}, api.ErrShort) // the number itself is missing
	noPool(t, []byte{0, 2, 1, 0xFF}, api.ErrShort)
}

func TestDecodeWrongTexts(t *testing.T) { // P4.1, P2
	for _, s := range []string{"\x00", "a\x00", "\xFF", "\xC3", "\xC0\x81", "\xC1\x81", "\xED\xA0\x81", "\xED\xB0\x80", "\xED\xB0\x80\xED\xA0\x81", "\xF0\x90\x90\x80", "\xE0\x80\x80", "\x80"} {
		b := append([]byte{0, 2, 1, 0, byte(len(s))}, s...)
		noPool(t, b, api.ErrUtf)
		noPool(t, append(b, 0xA9), api.ErrUtf) // what would end it stands behind it, and is no part of it
		noPool(t, b[:len(b)-1], api.ErrShort)
		b[1] = 3
		noPool(t, b, api.ErrUtf) // and the next is missing
		noPool(t, append(b, 99), api.ErrUtf)
		b = append([]byte{0, 3, 7, 0, 99, 1, 0, byte(len(s))}, s...)
		noPool(t, b, api.ErrUtf) // a place that leads nowhere is looked at behind all that is read
	}
}

func TestDecodeLeads(t *testing.T) { // P4.1
	for i, c := range sample() {
		first, second := wanted(c.Tag)
		for at := range 40 {
			p := sample()
			p[i].A = at
			if first == 0 {
				continue
			}
			if want := checkByHand(p); want == api.OK {
				goesRound(t, p)
			} else {
				noPool(t, encodeByHand(p), want)
			}
			p[i].A = c.A
			p[i].B = at
			if second == 0 {
				continue
			}
			if want := checkByHand(p); want == api.OK {
				goesRound(t, p)
			} else {
				noPool(t, encodeByHand(p), want)
			}
		}
	}
	for _, at := range []int{0, 1, 3, 255, 256, 1<<16 - 1} { // to none, to itself, past the end
		p := []api.Const{{}, {Tag: api.CClass, A: at}, {Tag: api.CUtf8}}
		noPool(t, encodeByHand(p), api.ErrPool)
	}
}

// chance makes numbers by a short rule.
func chance(seed uint64) func(n int) int {
	return func(n int) int {
		seed = seed*6364136223846793005 + 1442695040888963407
		return int(seed >> 33 % uint64(n))
	}
}

func TestDecodeSpoilt(t *testing.T) { // P4.1, P4.3, P1: held against what is read by hand
	count := map[api.Errno]int{}
	ask := func(b []byte) {
		t.Helper()
		p, n, e := decodeByHand(b)
		count[e]++
		if e != api.OK {
			noPool(t, b, e)
			return
		}
		reads(t, b, p)
		if c, e := pool.Encode(p); !bytes.Equal(c, b[:n]) || e != api.OK { // Encode undoes Decode too
			t.Errorf("Encode of %v: %x, %d; want %x", p, c, e, b[:n])
		}
	}
	b := encodeByHand(sample())
	for i := range b {
		for x := range 256 { // each byte is each value once
			c := bytes.Clone(b)
			c[i] = byte(x)
			ask(c)
		}
	}
	next := chance(5)
	few := []byte{0, 0, 0, 1, 1, 2, 3, 4, 5, 6, 7, 9, 10, 12, 0x41, 0x80, 0xC0, 0xFF}
	for range 20000 {
		c := []byte{0, byte(next(6))}
		for range next(40) {
			c = append(c, few[next(len(few))])
		}
		ask(c)
	}
	for _, e := range []api.Errno{api.OK, api.ErrShort, api.ErrLong, api.ErrPool, api.ErrUtf} {
		if count[e] == 0 {
			t.Errorf("none of them was answered by %d", e)
		}
	}
}

func TestManyPools(t *testing.T) { // P4.1, P4.3
	right := 0
	next := chance(9)
	names := []string{"", "a", "\x00", "\U00010400", "\xFF", "()V"}
	for range 20000 {
		p := make([]api.Const, 1+next(5))
		for i := range p[1:] {
			p[i+1] = api.Const{Tag: tags[next(len(tags))]}
			switch c := &p[i+1]; c.Tag {
			case api.CUtf8:
				c.Text = names[next(len(names))]
			case api.CInt:
				c.N = int64(next(1<<20)) << next(14)
			case api.CLong:
				c.N = -int64(next(1<<30)) << next(34)
			case api.CClass:
				c.A = next(len(p) + 1)
			default:
				c.A, c.B = next(len(p)+1), next(len(p)+1)
			}
		}
		if want := checkByHand(p); want != api.OK {
			refused(t, p, want)
			continue
		}
		right++
		goesRound(t, p)
	}
	if right < 1000 {
		t.Errorf("%d of them were right", right)
	}
}

func TestEncodeAnswersNewMemory(t *testing.T) { // P4, P5
	whole := append(sample(), api.Const{Tag: api.CUtf8, Text: "behind"})
	p := whole[:len(whole)-1]
	want := encodeByHand(p)
	first, _ := pool.Encode(p)
	second, _ := pool.Encode(p)
	for i := range first {
		first[i] = 0xEE
	}
	_ = append(first, 0xEE, 0xEE)
	clear(p)
	if !bytes.Equal(second, want) {
		t.Errorf("an answer behind a change of another, and of what was handed in: %x", second)
	}
	if whole[len(p)].Text != "behind" {
		t.Errorf("behind what was handed in stands %v", whole[len(p)])
	}
	goesRound(t, sample())
}

func TestDecodeAnswersNewMemory(t *testing.T) { // P4, P5
	b := append(encodeByHand(sample()), "behind"...)
	before := bytes.Clone(b)
	first, _, _ := pool.Decode(b)
	second, _, _ := pool.Decode(b)
	clear(first)
	_ = append(first, api.Const{Tag: 99})
	if !bytes.Equal(b, before) {
		t.Errorf("what was handed in is %x", b)
	}
	clear(b)
	if !slices.Equal(second, sample()) {
		t.Errorf("an answer behind a change of another, and of what was handed in: %v", second)
	}
	noPool(t, b, api.ErrPool)
	reads(t, before, sample())
}
