package class_test

import (
	"bytes"
	"slices"
	"strings"
	"testing"

	"understudy/api"
	"understudy/class"
)

func TestEncodeSample(t *testing.T) { // P5.1: what stands behind the pool, byte by byte
	b := goesRound(t, sample())
	want := strings.Join([]string{
		"\x00\x00\x00\x03\x00\x05\x00\x00",
		"\x00\x02",
		"\x00\x08\x00\x09\x00\x0A\x00\x00",
		"\x00\x00\x00\x06\x00\x14\x00\x00",
		"\x00\x04",
		"\x00\x08\x00\x06\x00\x07\x00\x01\x00\x08\x00\x00\x00\x2A\x00\x02\x00\x03\x00\x00\x00\x05\x03\x57\xFF\x00\xB1",
		"\x00\x02\x00\x00\x00\x05\x00\x04\x00\x12\x00\x01\x00\x02\x00\x00\x00\x00\x00\x01\x00\x01\x00\x00\x00\x03\x00\x01\xFF",
		"\x00\x00\x00\x09\x00\x07\x00\x01\x00\x08\x00\x00\x00\x0D\x00\x00\x00\x40\x00\x00\x00\x01\xB1\x00\x00\x00\x00",
		"\x00\x00\x00\x14\x00\x02\x00\x01\x00\x08\x00\x00\x00\x15\x00\x40\x00\x00\x00\x00\x00\x02\x01\x02\x00\x00\x00\x01\x00\x01\x00\x00\x00\x01\x09",
		"\x00\x08\x00\x09\x00\x0A\x00\x01\x00\x08\x00\x00\x00\x17\x00\x00\x00\x00\x00\x00\x00\x03\x00\x00\x00\x00\x01\x00\x02\x00\x03\x00\x00\x00\x03\x00\x00",
		"\x00\x00",
	}, "")
	if !strings.HasSuffix(string(b), want) {
		t.Errorf("%x; want %x", b, want)
	}
}

func TestPlacesOfTwoBytes(t *testing.T) { // P5.1, P5.3: places above 255
	c := sample()
	for len(c.Pool) < 600 {
		c.Pool = append(c.Pool, utf("x"))
	}
	c.Pool[codeAt], c.Pool[code2At], c.Pool[mapsAt], c.Pool[maps2At] = utf("x"), utf("x"), utf("x"), utf("x")
	c.Pool[0x0102], c.Pool[0x0201], c.Pool[0x0103], c.Pool[0x0104] = utf("Code"), utf("StackMapTable"), api.Const{Tag: api.CClass, A: 2}, api.Const{Tag: api.CClass, A: 4}
	c.This, c.Super = 0x0103, 0x0104
	c.Fields[0].Name, c.Fields[0].Desc, c.Methods[0].Name, c.Methods[0].Desc = 0x0105, 0x0106, 0x0107, 0x0108
	c.Methods[0].Code = make([]byte, 0x0ABC)
	c.Methods[0].Traps[0] = api.Trap{From: 0x0304, To: 0x0405, Handler: 0x0506, Type: 0x0103}
	c.Methods[0].Maps = bytes.Repeat([]byte{1, 2, 3}, 0x0234)
	goesRound(t, c)
}

// greatest answers a right class with as many bytes as there may be.
func greatest() api.Class {
	c := api.Class{Pool: make([]api.Const, api.MaxPool), This: 1, Super: 1}
	for i := range c.Pool[1:] {
		c.Pool[i+1] = utf(strings.Repeat("\u00E9", api.MaxName/2))
	}
	c.Pool[1] = api.Const{Tag: api.CClass, A: 2}
	c.Pool[api.MaxPool-1], c.Pool[api.MaxPool-2] = utf("Code"), utf("StackMapTable")
	code, maps := bytes.Repeat([]byte{1, 2, 3}, api.MaxCode)[:api.MaxCode], bytes.Repeat([]byte{4, 5, 6}, api.MaxCode)[:api.MaxCode]
	traps := slices.Repeat([]api.Trap{{From: 1, To: api.MaxCode, Handler: api.MaxCode - 1, Type: 1}}, api.MaxMembers)
	c.Fields = slices.Repeat([]api.Field{{Flags: api.Static, Name: 2, Desc: 3}}, api.MaxMembers)
	c.Methods = slices.Repeat([]api.Method{{Flags: api.Static, Name: 4, Desc: 5, Stack: api.MaxSlots, Locals: api.MaxSlots, Code: code, Traps: traps, Maps: maps}}, api.MaxMembers)
	return c
}

func TestGreatest(t *testing.T) { // P5.1, P5.3, the limits MaxPool, MaxName, MaxMembers, MaxCode, MaxSlots together
	c := greatest()
	b := goesRound(t, c)
	if len(b) < 820000 || len(b) >= api.MaxFrame {
		t.Errorf("%d bytes", len(b))
	}
	for _, n := range []int{1, 2, api.MaxFrame - len(b), api.MaxFrame - len(b) + 1, api.MaxFrame, 5 * api.MaxFrame} {
		noClass(t, slices.Concat(b, make([]byte, n)), api.ErrClass)
	}
	for _, n := range []int{1, 2, 3, 100, 1 << 16, len(b) / 2} {
		noClass(t, b[:len(b)-n], api.ErrShort)
	}
}

func TestDecodeCut(t *testing.T) { // P5.1: a class file cut short at each of its bytes
	bare := without("StackMapTable")
	bare.Methods = bare.Methods[1:2]
	for _, c := range []api.Class{sample(), least(), bare} {
		b := goesRound(t, c)
		for n := range b {
			noClass(t, b[:n], api.ErrShort)
			noClass(t, slices.Clip(b[:n]), api.ErrShort)
		}
	}
	noClass(t, nil, api.ErrShort)
	noClass(t, []byte{}, api.ErrShort)
	c := sample() // wrong as well: that is looked at when all is read
	c.This, c.Fields[0].Flags, c.Methods[0].Name, c.Methods[0].Stack, c.Methods[0].Traps[0].From = 0, 7, 0, 99, 77
	c.Methods[2].Code = nil
	b := lay(c).b
	for n := range b {
		noClass(t, b[:n], api.ErrShort)
	}
	noClass(t, b, api.ErrClass)
}

func TestDecodeFixed(t *testing.T) { // P5.1, P2: each fixed byte changed
	f := lay(sample())
	fixed := f.called("fixed")
	if len(fixed) != 4+2+4+1 {
		t.Fatalf("%d fixed parts", len(fixed))
	}
	for _, p := range fixed {
		end := p.at + p.size
		for i := p.at; i < end; i++ {
			for x := range 256 {
				b := bytes.Clone(f.b)
				if b[i] == byte(x) {
					continue
				}
				b[i] = byte(x)
				noClass(t, b, api.ErrClass)
				noClass(t, b[:end], api.ErrClass)      // what is missing behind it does not count
				noClass(t, b[:end-1], api.ErrShort)    // what is missing of it does
				noClass(t, append(b, 0), api.ErrClass) // both are that
			}
		}
	}
	b := bytes.Clone(f.b)
	slices.Reverse(b[:4]) // the lowest first
	noClass(t, b, api.ErrClass)
}

func TestDecodePool(t *testing.T) { // P5.1: the pool's error, where it is read
	head := "\xCA\xFE\xBA\xBE\x00\x00\x00\x3D"
	for _, x := range []struct {
		p string
		e api.Errno
	}{
		{"", api.ErrShort}, {"\x00", api.ErrShort}, {"\x00\x03\x07\x00\x02", api.ErrShort}, {"\x00\x02\x01\x00\x02a", api.ErrShort},
		{"\x00\x00", api.ErrPool}, {"\x00\x02\x02", api.ErrPool}, {"\x00\x03\x07\x00\x01\x01\x00\x00", api.ErrPool},
		{"\x04\x01", api.ErrLong}, {"\xFF\xFF", api.ErrLong},
		{"\x00\x02\x01\x01\x01", api.ErrUtf}, {"\x00\x02\x01\x00\x01\x00", api.ErrUtf},
	} {
		noClass(t, []byte(head+x.p), x.e)
		if x.e != api.ErrShort {
			noClass(t, []byte(head+x.p+"\x00\x01\x00\x01"), x.e) // flags that are others behind it
			noClass(t, []byte(head+x.p+strings.Repeat("\xFF", 1000)), x.e)
		}
		noClass(t, []byte("\xCA\xFE\xBA\xBF"+head[4:]+x.p), api.ErrClass) // what stands ahead of it is told
		noClass(t, []byte(head[:7]+"\x3C"+x.p), api.ErrClass)
	}
}

// leadsTo answers the number of places that lead to the text s, where that is asked of the parts of that name; each other is refused.
func leadsTo(t *testing.T, f file, p part, s string) int {
	t.Helper()
	n := 0
	for _, at := range append(places(), code2At, maps2At) {
		if at < 0 || at >= 1<<16 {
			continue
		}
		b := f.with(p, at)
		if tagAt(samplePool(), at) == api.CUtf8 && samplePool()[at].Text == s {
			reads(t, b, sample()) // another place of the same text is no other class
			n++
			continue
		}
		noClass(t, b, api.ErrClass)
		noClass(t, b[:p.at+2], api.ErrClass)
		noClass(t, b[:p.at+1], api.ErrShort)
	}
	return n
}

func TestDecodeTexts(t *testing.T) { // P5.1: where Code and StackMapTable lead: to another text, to none, to a later place of the same
	f := lay(sample())
	for _, s := range []string{"Code", "StackMapTable"} {
		l := f.called("place of " + s)
		if s == "Code" && len(l) != 4 || s != "Code" && len(l) != 2 {
			t.Errorf("%d places of %s", len(l), s)
		}
		for _, p := range l {
			if n := leadsTo(t, f, p, s); n < 2 {
				t.Errorf("%d places lead to %s", n, s)
			}
		}
	}
	c := without("Code") // no such text: the place that would be written leads to none
	noClass(t, lay(c).b, api.ErrClass)
	c = sample()
	c.Pool[codeAt].Text = "code"
	reads(t, lay(c).b, c) // the later one alone
}

func TestDecodeNumberOfBytes(t *testing.T) { // P5.1: the number of bytes of the code is not what was read
	f := lay(sample())
	l := f.called("bytes that follow")
	if len(l) != 4 {
		t.Fatalf("%d of them", len(l))
	}
	for i, p := range l {
		right := f.value(p)
		for _, n := range []int{0, 1, right - 13, right - 2, right - 1, right + 1, right + 2, right + 8, right + 1<<8, right + 1<<16, right + 1<<24, 2 * right, 1<<31 - 1, 1 << 31, 1<<32 - 1} {
			b := f.with(p, n)
			noClass(t, b, api.ErrClass)
			end := len(b) - 2
			if i+1 < len(l) {
				end = l[i+1].at - 10
			}
			noClass(t, b[:end], api.ErrClass)   // all of the method is there
			noClass(t, b[:end-1], api.ErrShort) // not all of it is
			noClass(t, b[:p.at+4], api.ErrShort)
		}
	}
}

func TestDecodeLeft(t *testing.T) { // P5.1: bytes are left at the end
	for _, c := range []api.Class{sample(), least()} {
		b := goesRound(t, c)
		for _, behind := range [][]byte{{0}, {1}, {0xFF}, {0, 0}, b, make([]byte, 1<<20), make([]byte, 1<<21)} {
			noClass(t, slices.Concat(b, behind), api.ErrClass)
		}
	}
}

func TestDecodeCounts(t *testing.T) { // P5.1, P2, the limit MaxMembers: with too few bytes behind them, and with enough
	f := lay(sample())
	l := f.called("members")
	if len(l) != 6 {
		t.Fatalf("%d counts", len(l))
	}
	for _, p := range l {
		for _, n := range []int{65, 66, 128, 255, 256, 1 << 12, 1<<15 + 1, 1<<16 - 1} {
			b := f.with(p, n)
			noClass(t, b, api.ErrLong)
			noClass(t, b[:p.at+2], api.ErrLong)
			noClass(t, b[:p.at+1], api.ErrShort)
			noClass(t, slices.Concat(b[:p.at+2], make([]byte, 1<<20)), api.ErrLong)
		}
		b := f.with(p, 64) // as many as can be: they are missing
		noClass(t, b[:p.at+2], api.ErrShort)
	}
}

func TestDecodeNumbersOfBytes(t *testing.T) { // P5.1, P2, the limit MaxCode: of code and of maps
	for _, what := range []string{"bytes of code", "bytes of maps"} {
		f := lay(sample())
		for _, p := range f.called(what) {
			for _, n := range []int{4097, 4098, 8192, 1<<16 - 1, 1 << 16, 1<<16 + 1, 1 << 24, 1<<31 - 1, 1 << 31, 1<<31 + 1, 1<<32 - 1} {
				b := f.with(p, n)
				noClass(t, b, api.ErrLong)
				noClass(t, b[:p.at+4], api.ErrLong)
				noClass(t, b[:p.at+3], api.ErrShort)
				noClass(t, slices.Concat(b[:p.at+4], make([]byte, 1<<20)), api.ErrLong)
			}
			b := f.with(p, 4096) // as many as can be: they are missing
			noClass(t, b[:p.at+4], api.ErrShort)
			noClass(t, slices.Concat(b[:p.at+4], make([]byte, 4095)), api.ErrShort)
		}
	}
	for _, n := range []int{0, api.MaxCode + 1, 1 << 16} {
		c := sample()
		c.Methods[1].Code = make([]byte, n)
		b := lay(c).b
		want := api.ErrLong
		if n == 0 {
			want = api.ErrClass
		}
		noClass(t, b, want) // all of them are there
		c = sample()
		c.Methods[3].Maps = make([]byte, n)
		noClass(t, lay(c).b, want)
	}
}

func TestDecodeNoCode(t *testing.T) { // P5.1: code of 0 bytes is refused when all is read
	c := sample()
	c.Methods[1].Code = nil
	f := lay(c)
	noClass(t, f.b, api.ErrClass)
	for n := range f.b {
		noClass(t, f.b[:n], api.ErrShort)
	}
	p := f.called("members")[4] // what is above its limit behind it is told ahead
	noClass(t, f.with(p, 65), api.ErrLong)
}

func TestDecodeNoMaps(t *testing.T) { // P5.1, P2: maps of 0 bytes are refused where they are read
	for i := range sample().Methods {
		c := sample()
		c.Methods[i].Maps = []byte{}
		f := lay(c)
		noClass(t, f.b, api.ErrClass)
		for _, p := range f.called("bytes of maps") {
			if f.value(p) == 0 {
				noClass(t, f.b[:p.at+4], api.ErrClass)
				noClass(t, f.b[:p.at+3], api.ErrShort)
				noClass(t, slices.Concat(f.b[:p.at+4], bytes.Repeat([]byte{0xFF}, 100)), api.ErrClass)
			}
		}
	}
	f := lay(sample())
	for _, p := range f.called("maps or none") {
		for _, n := range []int{2, 3, 255, 256, 257, 1<<16 - 1} {
			noClass(t, f.with(p, n), api.ErrClass)
			noClass(t, f.with(p, n)[:p.at+2], api.ErrClass)
		}
	}
}

func TestDecodeChecks(t *testing.T) { // P5.1: what Check refuses, behind all that is read
	refusedOnes := 0
	for _, fault := range faults() {
		c := sample()
		fault(&c)
		if !canBeLaid(c) {
			continue
		}
		f := lay(c)
		_, want := decodeByHand(f.b)
		noClass(t, f.b, want)
		if want == api.ErrClass {
			refusedOnes++
		}
	}
	if refusedOnes < 10 {
		t.Errorf("%d were refused so", refusedOnes)
	}
	f := lay(sample())
	for _, what := range []string{"this", "super", "flags", "name", "descriptor", "stack", "locals", "from", "to", "handler", "type"} {
		for _, p := range f.called(what) {
			for n := range 300 {
				held(t, f.with(p, n), nil)
			}
			held(t, f.with(p, 1<<16-1), nil)
			held(t, f.with(p, 1<<15), nil)
		}
	}
}

// held holds what is read from b against a reading by hand.
func held(t *testing.T, b []byte, count map[api.Errno]int) {
	t.Helper()
	c, e := decodeByHand(b)
	if count != nil {
		count[e]++
	}
	if e != api.OK {
		noClass(t, b, e)
		return
	}
	reads(t, b, c)
	goesRound(t, c)
}

func TestDecodeSpoilt(t *testing.T) { // P5.1, P1: each byte is each value once; bytes are cut out, doubled, turned about
	count := map[api.Errno]int{}
	b := lay(sample()).b
	for i := range b {
		for x := range 256 {
			d := bytes.Clone(b)
			d[i] = byte(x)
			held(t, d, count)
			if x%16 == 0 {
				held(t, d[:max(i, len(d)-x/16)], count)
			}
		}
		held(t, slices.Delete(bytes.Clone(b), i, i+1), count)
		held(t, slices.Insert(bytes.Clone(b), i, b[i]), count)
		held(t, slices.Insert(bytes.Clone(b), i, 0), count)
	}
	next := chance(3)
	for range 20000 {
		d := bytes.Clone(b)
		for range 1 + next(3) {
			d[next(len(d))] = byte(next(10))
		}
		for range next(3) {
			i := next(len(d) - 2)
			d[i], d[i+1] = d[i+1], d[i]
		}
		held(t, d[:len(d)-max(0, next(60)-40)], count)
	}
	for _, e := range []api.Errno{api.OK, api.ErrShort, api.ErrLong, api.ErrClass, api.ErrPool, api.ErrUtf} {
		if count[e] == 0 {
			t.Errorf("none of them was answered by %d", e)
		}
	}
}

// some answers a class of a short rule, mostly right.
func some(next func(n int) int) api.Class {
	rare := func(right, wrong int) int { // a number that is wrong now and then
		if next(150) == 0 {
			return wrong
		}
		return right
	}
	texts := []int{mapsAt, 2, mainAt, 7, codeAt, fAt, emptyAt, maps2At}
	classes := []int{thisAt, superAt, trapAt}
	text := func() int { return rare(texts[next(len(texts))], next(behindAt+1)-1) }
	c := api.Class{Pool: samplePool(), This: rare(classes[next(3)], next(behindAt+1)), Super: rare(classes[next(3)], -1)}
	for range next(5) {
		c.Fields = append(c.Fields, api.Field{Flags: rare(8*next(2), next(20)), Name: text(), Desc: text()})
	}
	for range next(5) {
		m := api.Method{Flags: rare(8*next(2), next(20)), Name: text(), Desc: text(), Stack: rare(next(65), 65), Locals: rare(next(65), -1)}
		m.Code = make([]byte, rare(1+next(9), 4097*next(2)))
		for i := range m.Code {
			m.Code[i] = byte(next(256))
		}
		for range next(3) {
			from, handler := next(max(1, len(m.Code))), next(max(1, len(m.Code)))
			to := from + 1 + next(max(1, len(m.Code)-from))
			m.Traps = append(m.Traps, api.Trap{From: rare(from, to), To: rare(to, len(m.Code)+1), Handler: rare(handler, len(m.Code)), Type: rare(classes[next(3)]*next(2), next(behindAt+1))})
		}
		m.Maps = make([]byte, next(2)*next(5))
		for i := range m.Maps {
			m.Maps[i] = byte(next(256))
		}
		c.Methods = append(c.Methods, m)
	}
	if next(20) == 0 {
		c.Pool[codeAt], c.Pool[code2At] = utf("x"), utf([]string{"Code", "x"}[next(2)])
	}
	if next(20) == 0 {
		c.Pool[mapsAt], c.Pool[maps2At] = utf("x"), utf([]string{"StackMapTable", "x"}[next(2)])
	}
	return c
}

func TestManyClasses(t *testing.T) { // P5.1, P5.3
	right := 0
	next := chance(8)
	for range 20000 {
		c := some(next)
		if want := checkByHand(c); want != api.OK {
			refused(t, c, want)
			continue
		}
		right++
		goesRound(t, c)
	}
	if right < 5000 || right > 19000 {
		t.Errorf("%d of them were right", right)
	}
}

// spoil changes all bytes of l, and what stands behind its end, if there is room.
func spoil(l []byte) {
	for i := range l {
		l[i] ^= 0xEE
	}
	_ = append(l, 0xEE, 0xEE, 0xEE)
}

func TestEncodeAnswersNewMemory(t *testing.T) { // P4, P5
	whole := make([]byte, 100)
	c := sample()
	c.Methods[0].Code = whole[10:20]
	c.Methods[0].Maps = whole[20:30]
	before, want := clone(c), lay(c).b
	firstAnswer, _ := class.Encode(c)
	second, _ := class.Encode(c)
	spoil(firstAnswer)
	if !bytes.Equal(whole, make([]byte, 100)) || !same(c, before) {
		t.Errorf("what was handed in is %s", show(c))
	}
	for i := range whole {
		whole[i] = 0xEE
	}
	clear(c.Pool)
	clear(c.Fields)
	clear(c.Methods)
	if !bytes.Equal(second, want) {
		t.Errorf("an answer behind a change of another, and of what was handed in: %x", second)
	}
	refused(t, c, api.ErrPool)
	goesRound(t, sample())
}

func TestDecodeAnswersNewMemory(t *testing.T) { // P4, P5; no two lists share
	b := lay(sample()).b
	before := bytes.Clone(b)
	one, _ := class.Decode(b)
	two, _ := class.Decode(b)
	for i := range one.Methods {
		m := &one.Methods[i]
		spoil(m.Code)
		spoil(m.Maps)
		clear(m.Traps)
		_ = append(m.Traps, api.Trap{From: 99})
		for j := range one.Methods { // the others stay as they are
			if want := sample().Methods[j]; j > i && (!bytes.Equal(one.Methods[j].Code, want.Code) || !bytes.Equal(one.Methods[j].Maps, want.Maps) || !slices.Equal(one.Methods[j].Traps, want.Traps)) {
				t.Errorf("behind a change of %d the method %d is %+v", i, j, one.Methods[j])
			}
		}
	}
	if !slices.Equal(one.Pool, samplePool()) || !slices.Equal(one.Fields, sample().Fields) {
		t.Errorf("behind a change of its methods: %s", show(one))
	}
	clear(one.Fields)
	clear(one.Pool)
	if !bytes.Equal(b, before) {
		t.Errorf("what was handed in is %x", b)
	}
	clear(b)
	if !same(two, sample()) {
		t.Errorf("an answer behind a change of another, and of what was handed in: %s", show(two))
	}
	noClass(t, b, api.ErrClass)
	reads(t, before, sample())
}

func TestMapsAndCodeShareNothing(t *testing.T) { // P4: within one method
	c, _ := class.Decode(lay(sample()).b)
	spoil(c.Methods[0].Code)
	if !bytes.Equal(c.Methods[0].Maps, sample().Methods[0].Maps) {
		t.Errorf("the maps behind a change of the code: %x", c.Methods[0].Maps)
	}
	c, _ = class.Decode(lay(sample()).b)
	spoil(c.Methods[0].Maps)
	if !bytes.Equal(c.Methods[0].Code, sample().Methods[0].Code) {
		t.Errorf("the code behind a change of the maps: %x", c.Methods[0].Code)
	}
}
