package maps_test

import (
	"bytes"
	"math/rand"
	"slices"
	"strings"
	"testing"

	"understudy/api"
)

// none is how many types there are, where there are none.
const none = "\x00\x00"

func TestExample(t *testing.T) { // the chapter's example, both ways
	b, l := []byte("\x00\x01\xFF\x00\x05\x00\x01\x01\x00\x00"), []api.Map{{At: 5, Frame: api.Frame{Locals: list(num)}}}
	reads(t, nil, b, l)
	writes(t, nil, l, b)
}

func TestDecodeNone(t *testing.T) { // P10.1, P3: no bytes, and bytes of no maps
	for _, p := range [][]api.Const{nil, {}, sample()} {
		reads(t, p, nil, nil)
		reads(t, p, []byte{}, nil)
		reads(t, p, []byte{0, 0}, nil)
		refuses(t, p, []byte{0}, api.ErrShort)
		refuses(t, p, []byte{9}, api.ErrShort)
		refuses(t, p, []byte{0, 1}, api.ErrShort)
		refuses(t, p, []byte{0, 0, 0}, api.ErrMaps)
		refuses(t, p, []byte{0, 0, 0xFF}, api.ErrMaps)
		refuses(t, p, []byte{0xFF, 0xFF}, api.ErrShort)
	}
}

// whole answers bytes with types of all kinds, and their maps.
func whole() ([]byte, []api.Map) {
	b := bytesOf(
		one(3, of("\x01", "\x07\x00\x02", "\x00", "\x04"), of("\x05", "\x07\x00\x08")),
		one(0, of("\x06", "\x08\x00\x07"), none),
		one(258, none, of("\x08\x01\x02", "\x06", "\x07\x00\x06", "\x07\x00\x0B")),
	)
	return b, []api.Map{
		{At: 3, Frame: api.Frame{Locals: list(num, classA, top, wide), Stack: list(null, array(2, api.KRef, "A"))}},
		{At: 4, Frame: api.Frame{Locals: list(this, made(7)), Fresh: true}},
		{At: 263, Frame: api.Frame{Stack: list(made(258), this, ints, classA)}},
	}
}

func TestDecodeCut(t *testing.T) { // P10.1: bytes cut at each place, and bytes left behind
	b, l := whole()
	reads(t, sample(), b, l)
	for n := 1; n < len(b); n++ {
		refuses(t, sample(), b[:n], api.ErrShort)
		refuses(t, sample(), slices.Clip(b[:n]), api.ErrShort)
	}
	for _, left := range [][]byte{{0}, {1}, {0xFF}, {0, 0}, {0, 1}, b, b[2:], make([]byte, 1<<21)} {
		refuses(t, sample(), slices.Concat(b, left), api.ErrMaps)
	}
	for n := range 4 {
		b[1] = byte(n) // fewer maps than there are: all others are left
		held(t, sample(), b)
	}
	b[1] = 4
	refuses(t, sample(), b, api.ErrShort)
	b[0], b[1] = 3, 0 // the lowest first
	refuses(t, sample(), b, api.ErrShort)
}

func TestDecodeFF(t *testing.T) { // P10.1: what each map begins with, as another
	b, _ := whole()
	for _, i := range []int{2, 2 + len(one(3, of("\x01", "\x07\x00\x02", "\x00", "\x04"), of("\x05", "\x07\x00\x08")))} {
		if b[i] != 0xFF {
			t.Fatal("no map begins there")
		}
		for x := range 0xFF {
			b[i] = byte(x)
			refuses(t, sample(), b, api.ErrMaps)
			refuses(t, sample(), b[:i+1], api.ErrMaps) // what is missing behind it does not count
		}
		b[i] = 0xFF
	}
}

func TestDecodeKinds(t *testing.T) { // P10.1: each kind of type, and each byte that is none
	kinds := map[int]api.Type{0: top, 1: num, 4: wide, 5: null, 6: this}
	for x := range 256 {
		s := string([]byte{byte(x)})
		if k, isThere := kinds[x]; isThere {
			reads(t, nil, bytesOf(one(1, of(s), of(s, s))), []api.Map{{At: 1, Frame: frame(list(k), list(k, k))}})
			continue
		}
		for _, types := range []string{of(s), of("\x01", s), of("\x04", "\x05", s)} {
			if x == 7 || x == 8 { // the bytes behind are its place
				refuses(t, sample(), []byte("\x00\x01\xFF\x00\x01"+types), api.ErrShort)
				continue
			}
			refuses(t, sample(), []byte("\x00\x01\xFF\x00\x01"+types), api.ErrMaps)
			refuses(t, sample(), bytesOf(one(1, types, none)), api.ErrMaps)
			refuses(t, sample(), bytesOf(one(1, none, types)), api.ErrMaps)
			refuses(t, sample(), bytesOf(one(1, none, types), one(1, none, none)), api.ErrMaps)
		}
	}
	reads(t, sample(), bytesOf(one(1, of("\x07\x00\x02"), of("\x08\x00\x02"))), []api.Map{{At: 1, Frame: frame(list(classA), list(made(2)))}})
}

func TestDecodeLongs(t *testing.T) { // P10.1: locals just as they stand: a long is one
	reads(t, nil, bytesOf(one(0, of("\x04", "\x04", "\x01"), of("\x04", "\x00"))), []api.Map{{Frame: api.Frame{Locals: list(wide, wide, num), Stack: list(wide, top)}}})
	reads(t, nil, bytesOf(one(0, of("\x00", "\x00"), none)), []api.Map{{Frame: api.Frame{Locals: list(top, top)}}})
}

func TestDecodeClasses(t *testing.T) { // P10.1: places of the pool: which are a class's, and which are none
	of7 := func(place int) []byte { return bytesOf(one(1, none, of("\x07"+u2(place)))) }
	for place, x := range map[int]api.Type{atA: classA, atObject: object, atInts: ints, atGrid: array(2, api.KRef, "A"), againA: classA, otherA: classA} {
		reads(t, sample(), of7(place), []api.Map{{At: 1, Frame: api.Frame{Stack: list(x)}}})
	}
	taken := 0
	for place := range 1 << 16 {
		if place > 300 && place%97 > 0 && place < 65000 {
			continue
		}
		b := of7(place)
		if held(t, sample(), b) == api.OK {
			taken++
			refuses(t, nil, b, api.ErrMaps)
			refuses(t, sample()[:place], b, api.ErrMaps)
			continue
		}
		refuses(t, sample(), b, api.ErrMaps)
		refuses(t, sample(), []byte(string(b[:len(b)-1])), api.ErrShort) // half a place
	}
	if taken != 6 {
		t.Errorf("%d places were taken", taken)
	}
	p := sample()
	p[0] = api.Const{Tag: api.CClass, A: 1}
	refuses(t, p, of7(0), api.ErrMaps)
	refuses(t, p, of7(behind), api.ErrMaps)
}

func TestDecodeTexts(t *testing.T) { // P10.1: texts of classes: a class's name, an array's descriptor, and neither
	for s, x := range rightTexts() {
		reads(t, poolOf(s), bytesOf(one(9, of("\x07\x00\x02"), none)), []api.Map{{At: 9, Frame: frame(list(x), nil)}})
	}
	for _, s := range wrongTexts() {
		refuses(t, poolOf(s), bytesOf(one(9, of("\x07\x00\x02"), none)), api.ErrMaps)
		refuses(t, poolOf(s), bytesOf(one(9, none, of("\x07\x00\x02"))), api.ErrMaps)
		refuses(t, poolOf(s), bytesOf(one(9, none, of("\x07\x00\x02")))[:12], api.ErrMaps) // what is missing behind does not count
	}
}

func TestDecodeGreatPool(t *testing.T) { // P10.1: places of two bytes, in a pool that is longer than a right one
	p := slices.Repeat([]api.Const{utf("B")}, 1<<16+2)
	p[1<<16-1], p[0x0102], p[0x0201] = api.Const{Tag: api.CClass, A: 1}, api.Const{Tag: api.CClass, A: 1 << 16}, api.Const{Tag: api.CClass, A: 2}
	p[1<<16], p[2] = utf("Far"), utf("Near")
	reads(t, p, bytesOf(one(0, of("\x07\xFF\xFF", "\x07\x01\x02", "\x07\x02\x01"), none)), []api.Map{{Frame: frame(list(class("B"), class("Far"), class("Near")), nil)}})
	refuses(t, p, bytesOf(one(0, of("\x07\x00\x02"), none)), api.ErrMaps)
}

func TestDecodeSlots(t *testing.T) { // P10.1, the limit MaxSlots: of locals, and on the stack
	for n, e := range map[int]api.Errno{0: api.OK, 1: api.OK, 63: api.OK, 64: api.OK, 65: api.ErrMaps, 66: api.ErrMaps, 128: api.ErrMaps, 256: api.ErrMaps, 1 << 15: api.ErrMaps, 1<<16 - 1: api.ErrMaps} {
		many := slices.Repeat([]string{"\x01"}, n)
		types := slices.Repeat(list(num), n)
		for _, b := range [][]byte{bytesOf(one(4, of(many...), none)), bytesOf(one(4, none, of(many...))), bytesOf(one(4, of(many...), of(many...)))} {
			if held(t, nil, b) != e {
				t.Errorf("by hand otherwise of %d", n)
			}
		}
		if e == api.OK {
			reads(t, nil, bytesOf(one(4, of(many...), of(many...))), []api.Map{{At: 4, Frame: frame(types, types)}})
			continue
		}
		refuses(t, nil, bytesOf(one(4, u2(n), "")), e) // the number alone is too much
		refuses(t, nil, bytesOf(one(4, none, u2(n))), e)
		refuses(t, nil, bytesOf(one(4, u2(n)[:1], "")), api.ErrShort)
	}
	refuses(t, nil, bytesOf(one(4, u2(64), "")), api.ErrShort)
	refuses(t, nil, bytesOf(one(4, none, u2(64))), api.ErrShort)
}

func TestDecodePlaces(t *testing.T) { // P10.1: the first by its step, the further ones by step and one
	empty := none + none
	for _, x := range [][]int{{0}, {1}, {255}, {256}, {258}, {api.MaxCode}, {0, 0}, {0, 0, 0}, {0, 1, 2}, {5, 0, 7}, {0, api.MaxCode - 1}, {api.MaxCode - 1, 0}, {api.MaxCode - 2, 0, 0}, {513, 258, 1, 0, 1027}} {
		var l []api.Map
		var s []string
		at := -1
		for _, step := range x {
			at += step + 1
			l = append(l, api.Map{At: at})
			s = append(s, one(step, empty, ""))
		}
		reads(t, nil, bytesOf(s...), l)
	}
}

func TestDecodeFarPlaces(t *testing.T) { // P10.1, the limit MaxCode: by one step, and by several
	empty := none + none
	for _, x := range [][]int{{api.MaxCode + 1}, {api.MaxCode + 2}, {1 << 15}, {1<<16 - 1}, {api.MaxCode, 0}, {api.MaxCode - 1, 1}, {0, api.MaxCode}, {0, 1<<16 - 1}, {2000, 2000, 2000}, {api.MaxCode - 2, 0, 0, 0}, {2048, 2047, 0}} {
		var s []string
		for _, step := range x {
			s = append(s, one(step, empty, ""))
		}
		b := bytesOf(s...)
		refuses(t, nil, b, api.ErrMaps)
		refuses(t, nil, b[:len(b)-4], api.ErrMaps) // the step alone is too much
		refuses(t, nil, b[:len(b)-5], api.ErrShort)
		refuses(t, nil, append(b, 0), api.ErrMaps)
	}
	all := slices.Repeat([]string{one(0, empty, "")}, api.MaxCode+1) // each place there can be
	var l []api.Map
	for at := range api.MaxCode + 1 {
		l = append(l, api.Map{At: at})
	}
	reads(t, nil, bytesOf(all...), l)
	refuses(t, nil, bytesOf(append(all, one(0, empty, ""))...), api.ErrMaps)
	refuses(t, nil, slices.Concat([]byte{0xFF, 0xFF}, []byte(strings.Repeat(one(0, empty, ""), 1<<16-1))), api.ErrMaps)
}

func TestDecodeNew(t *testing.T) { // P10.1, the limit MaxCode: places of a new
	for _, at := range []int{0, 1, 255, 256, 258, 513, api.MaxCode - 1, api.MaxCode} {
		reads(t, nil, bytesOf(one(0, of("\x08"+u2(at)), of("\x00", "\x08"+u2(at)))), []api.Map{{Frame: frame(list(made(at)), list(top, made(at)))}})
	}
	for _, at := range []int{api.MaxCode + 1, api.MaxCode + 2, 1 << 13, 1 << 15, 1<<16 - 1} {
		b := bytesOf(one(0, none, of("\x08"+u2(at))))
		refuses(t, nil, b, api.ErrMaps)
		refuses(t, nil, b[:len(b)-1], api.ErrShort)
		refuses(t, nil, bytesOf(one(0, "\x00\x02\x08"+u2(at), "")), api.ErrMaps)
	}
	reads(t, nil, bytesOf(one(300, of("\x08\x00\x09"), none)), []api.Map{{At: 300, Frame: frame(list(made(9)), nil)}}) // no step is counted from the map
}

func TestDecodeFresh(t *testing.T) { // P10.1: KThis among the locals, and on the stack alone
	for _, x := range []struct {
		locals, stack []string
		want          api.Frame
	}{
		{[]string{"\x06"}, nil, api.Frame{Locals: list(this), Fresh: true}},
		{[]string{"\x01", "\x04", "\x06"}, []string{"\x06"}, api.Frame{Locals: list(num, wide, this), Stack: list(this), Fresh: true}},
		{[]string{"\x06", "\x06"}, []string{"\x01"}, api.Frame{Locals: list(this, this), Stack: list(num), Fresh: true}},
		{[]string{"\x06", "\x00"}, nil, api.Frame{Locals: list(this, top), Fresh: true}},
		{nil, []string{"\x06"}, api.Frame{Stack: list(this)}},
		{[]string{"\x01", "\x08\x00\x06"}, []string{"\x06", "\x06"}, api.Frame{Locals: list(num, made(6)), Stack: list(this, this)}},
		{[]string{"\x07\x00\x02"}, nil, api.Frame{Locals: list(classA)}},
	} {
		reads(t, sample(), bytesOf(one(8, of(x.locals...), of(x.stack...))), []api.Map{{At: 8, Frame: x.want}})
	}
	reads(t, nil, bytesOf(one(0, of("\x06"), none), one(0, of("\x01"), none), one(0, of("\x06"), none)), []api.Map{{At: 0, Frame: frame(list(this), nil)}, {At: 1, Frame: frame(list(num), nil)}, {At: 2, Frame: frame(list(this), nil)}}) // each by its own
}

func TestDecodeInOrder(t *testing.T) { // P10.1, P2: of two errors that one that is read first
	p := sample()
	bad := map[string]string{ // what ends a row of bytes with ErrMaps
		"FF": "\xFE", "a far place": "\xFF\x20\x00", "many locals": "\xFF\x00\x00\x00\x41", "many on the stack": "\xFF\x00\x00\x00\x00\x00\x41",
		"a kind of local": "\xFF\x00\x00\x00\x02\x02", "a kind on the stack": "\xFF\x00\x00\x00\x00\x00\x02\x03", "no class": "\xFF\x00\x00\x00\x02\x07\x00\x01", "a far new": "\xFF\x00\x00\x00\x02\x08\xFF\xFF",
	}
	for what, s := range bad {
		for n := range len(s) { // ahead of what can't be bytes are missing
			refuses(t, p, []byte("\x00\x02"+one(0, none, none)+s[:n]), api.ErrShort)
			refuses(t, p, []byte("\x00\x01"+s[:n]), api.ErrShort)
		}
		for _, behind := range []string{"", "\x00", "\x07", "\xFF", one(0, none, none), "\x00\x00\x00\x00\x00"} {
			refuses(t, p, []byte("\x00\x02"+one(0, none, none)+s+behind), api.ErrMaps)
			refuses(t, p, []byte("\x00\x01"+s+behind), api.ErrMaps)
			if held(t, p, []byte("\x00\x03"+s+behind)) != api.ErrMaps {
				t.Errorf("by hand otherwise: %s", what)
			}
		}
	}
	refuses(t, p, []byte("\x00\x01"+one(0, of("\x07\x00"), none)), api.ErrMaps)      // the place runs on into what is behind: the place 0
	refuses(t, p, []byte("\x00\x02"+one(0, none, none)), api.ErrShort)               // a map is missing
	refuses(t, p, []byte("\x00\x02"+one(0, none, none)+"\x00"), api.ErrMaps)         // a map can't begin so
	refuses(t, p, []byte("\x00\x01"+one(0, none, none)+"\xFF\x00\x00"), api.ErrMaps) // it is left
}

func TestDecodeSpoilt(t *testing.T) { // P10.1, P1: each byte is each value once; bytes are cut out, doubled, turned about
	count := map[api.Errno]int{}
	b, _ := whole()
	for i := range b {
		for x := range 256 {
			d := bytes.Clone(b)
			d[i] = byte(x)
			count[held(t, sample(), d)]++
			if x%16 == 0 {
				count[held(t, sample(), d[:max(i, len(d)-x/16)])]++
			}
		}
		count[held(t, sample(), slices.Delete(bytes.Clone(b), i, i+1))]++
		count[held(t, sample(), slices.Insert(bytes.Clone(b), i, b[i]))]++
		count[held(t, sample(), slices.Insert(bytes.Clone(b), i, 0))]++
	}
	for _, e := range []api.Errno{api.OK, api.ErrShort, api.ErrMaps} {
		if count[e] < 50 {
			t.Errorf("%d of them were answered by %d", count[e], e)
		}
	}
}

func TestDecodeByChance(t *testing.T) { // P10.1, P1: right bytes, spoilt ones, and such that are nothing
	chance := rand.New(rand.NewSource(10))
	count := map[api.Errno]int{}
	for range 20000 {
		b, e := encodeByHand(sample(), someMaps(chance, 5))
		if e != api.OK {
			t.Fatal("no maps")
		}
		for range chance.Intn(3) {
			if len(b) > 0 {
				b[chance.Intn(len(b))] = byte(chance.Intn(13))
			}
		}
		count[held(t, sample(), b[:len(b)-min(len(b), max(0, chance.Intn(20)-16))])]++
	}
	for range 20000 {
		b := []byte{0, byte(chance.Intn(3)), 0xFF, 0, 0, 0, byte(chance.Intn(3)), 0, 0, 0, 0}[:2+chance.Intn(9)]
		for range chance.Intn(12) {
			b = append(b, byte(chance.Intn(10)))
		}
		count[held(t, sample(), b)]++
	}
	for _, e := range []api.Errno{api.OK, api.ErrShort, api.ErrMaps} {
		if count[e] < 2000 {
			t.Errorf("%d of them were answered by %d", count[e], e)
		}
	}
}
