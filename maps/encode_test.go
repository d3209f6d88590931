package maps_test

import (
	"bytes"
	"math"
	"math/rand"
	"slices"
	"testing"

	"understudy/api"
	"understudy/maps"
)

// at answers maps without types at the places.
func at(places ...int) []api.Map {
	var l []api.Map
	for _, n := range places {
		l = append(l, api.Map{At: n})
	}
	return l
}

// both answers the ways in which a map can have those types: as locals, on the stack, and behind others.
func both(types ...api.Type) [][]api.Map {
	behind := append(list(num), types...)
	return [][]api.Map{
		{{At: 7, Frame: frame(types, nil)}},
		{{At: 7, Frame: frame(nil, types)}},
		{{At: 7, Frame: frame(behind, list(wide))}, {At: 9}},
		{{At: 6}, {At: 7, Frame: frame(list(this), behind)}},
	}
}

func TestEncodeNone(t *testing.T) { // P10.2, P3: none of none; no types of none
	for _, p := range [][]api.Const{nil, {}, sample()} {
		writes(t, p, nil, nil)
		writes(t, p, []api.Map{}, nil)
		writes(t, p, []api.Map{{}}, bytesOf(one(0, none, none)))
		writes(t, p, []api.Map{{At: 3, Frame: api.Frame{Locals: list(), Stack: list()}}}, bytesOf(one(3, none, none)))
	}
}

func TestEncodeWhole(t *testing.T) { // P10.2: types of all kinds, byte by byte
	b, l := whole()
	b[len(b)-1] = atA // the earliest place of A
	writes(t, sample(), l, b)
}

func TestEncodePlaces(t *testing.T) { // P10.2, P6: places that do not rise, the same twice, below 0, above MaxCode
	for _, x := range [][]int{{0}, {1}, {258}, {513}, {api.MaxCode - 1}, {api.MaxCode}, {0, 1}, {0, 2}, {0, api.MaxCode}, {api.MaxCode - 1, api.MaxCode}, {3, 4, 5, 900, 901, 2000, 4096}} {
		var s []string
		ahead := -1
		for _, n := range x {
			s = append(s, one(n-ahead-1, none, none))
			ahead = n
		}
		writes(t, nil, at(x...), bytesOf(s...))
	}
	for _, x := range [][]int{
		{1, 0}, {5, 4}, {5, 3}, {0, 5, 4}, {api.MaxCode, 0}, {4, 5, 6, 2},
		{0, 0}, {5, 5}, {api.MaxCode, api.MaxCode}, {3, 4, 4}, {3, 3, 4},
		{-1}, {-2}, {-1, 0}, {-3, 4}, {0, -1}, {math.MinInt}, {math.MinInt, 0}, {5, math.MinInt}, {math.MinInt32}, {-65536}, {-65535}, {-65535, 9},
		{api.MaxCode + 1}, {api.MaxCode + 2}, {0, api.MaxCode + 1}, {api.MaxCode, api.MaxCode + 1}, {1 << 16}, {1<<16 + 1}, {1 << 32}, {1<<32 + 5}, {math.MaxInt32}, {math.MaxInt}, {0, math.MaxInt}, {math.MinInt, math.MaxInt}, {math.MaxInt, math.MinInt},
		{5, 6, 65536 + 7}, {65536 + 5, 65536 + 6},
	} {
		wrong(t, nil, at(x...))
	}
}

func TestEncodeSlots(t *testing.T) { // P10.2, the limit MaxSlots: of locals, and on the stack
	for _, x := range []api.Type{num, wide, classA, made(5), this} {
		for _, n := range []int{0, 1, 63, 64} {
			types := slices.Repeat(list(x), n)
			bytes := of(slices.Repeat([]string{typeBytes(sample(), x)}, n)...)
			writes(t, sample(), []api.Map{{At: 1, Frame: frame(types, types)}}, bytesOf(one(1, bytes, bytes)))
		}
		for _, n := range []int{65, 66, 128, 256, 1 << 16, 1<<16 + 1, 1 << 17} {
			types := slices.Repeat(list(x), n)
			wrong(t, sample(), []api.Map{{At: 1, Frame: frame(types, nil)}})
			wrong(t, sample(), []api.Map{{At: 1, Frame: frame(nil, types)}})
			wrong(t, sample(), []api.Map{{At: 1}, {At: 2, Frame: frame(types[:64], types)}})
		}
	}
}

func TestEncodeKinds(t *testing.T) { // P10.2, P6: KVoid, and kinds that are none
	right := map[int]bool{api.KTop: true, api.KInt: true, api.KLong: true, api.KNull: true, api.KThis: true, api.KNew: true}
	for _, k := range numbers() {
		for _, l := range both(api.Type{K: k}) {
			if !right[k] {
				wrong(t, sample(), l)
				wrong(t, nil, l)
			}
			if heldMaps(t, sample(), l) == api.OK != right[k] {
				t.Errorf("by hand otherwise of the kind %d", k)
			}
		}
	}
	for _, l := range both(api.Type{K: api.KVoid}) {
		wrong(t, sample(), l)
	}
}

func TestEncodeParts(t *testing.T) { // P10.2, P10.4: parts that a kind has not
	for _, x := range someTypes() {
		for _, l := range both(x) {
			if heldMaps(t, sample(), l) != api.OK {
				t.Errorf("by hand otherwise of %v", x)
			}
		}
		for _, n := range []int{-1, 1, 2, 4, 5, math.MinInt, math.MaxInt} {
			var odd []api.Type
			if x.K != api.KRef && x.K != api.KArray { // of these another name is another type
				odd = append(odd, api.Type{K: x.K, Name: "A", Dims: x.Dims, Elem: x.Elem, At: x.At}, api.Type{K: x.K, Name: "[I", Dims: x.Dims, Elem: x.Elem, At: x.At})
			}
			if x.K == api.KArray && x.Elem != api.KRef {
				odd = append(odd, api.Type{K: x.K, Name: "A", Dims: x.Dims, Elem: x.Elem, At: x.At})
			}
			if x.K != api.KArray {
				odd = append(odd, api.Type{K: x.K, Name: x.Name, Dims: n, At: x.At}, api.Type{K: x.K, Name: x.Name, Elem: n, At: x.At}, api.Type{K: x.K, Name: x.Name, Dims: 1, Elem: n, At: x.At})
			}
			if x.K != api.KNew {
				odd = append(odd, api.Type{K: x.K, Name: x.Name, Dims: x.Dims, Elem: x.Elem, At: n})
			}
			for _, y := range odd {
				for _, l := range both(y) {
					wrong(t, sample(), l)
				}
			}
		}
	}
}

func TestEncodeArrays(t *testing.T) { // P10.2: arrays of any dimensions, of any kind, with any name
	p := poolOf("A", "[I", "[J", "[LA;", "[[I", "[[[[LA;", "[[[[[I", "[LB", "[", "[LI;", "I", "J", "[[", "[V", "[[[[[LA;")
	taken := 0
	for _, dims := range numbers() {
		for _, elem := range numbers() {
			for _, name := range []string{"", "A", "B", "I", "J", "[I", "[LA;", "LA;"} {
				for _, l := range both(array(dims, elem, name)) {
					if heldMaps(t, p, l) == api.OK {
						taken++
					}
				}
			}
		}
	}
	if taken != 4*6 { // of the arrays [I, [J, [LA;, [[I, [[[[LA; and [LI;
		t.Errorf("%d were taken", taken)
	}
}

func TestEncodeNew(t *testing.T) { // P10.2, P6: At below 0, and above MaxCode
	for _, n := range []int{0, 1, 255, 256, 258, api.MaxCode - 1, api.MaxCode} {
		writes(t, nil, []api.Map{{At: 2, Frame: frame(list(made(n)), list(num, made(n)))}}, bytesOf(one(2, of("\x08"+u2(n)), of("\x01", "\x08"+u2(n)))))
	}
	for _, n := range []int{-1, -2, -65536, -65535, math.MinInt, math.MinInt32, api.MaxCode + 1, api.MaxCode + 2, 1<<16 - 1, 1 << 16, 1<<16 + 1, 1 << 32, math.MaxInt32, math.MaxInt} {
		for _, l := range both(made(n)) {
			wrong(t, sample(), l)
		}
	}
}

func TestEncodeFresh(t *testing.T) { // P10.2: both ways when it is not as said
	for _, x := range []struct {
		locals, stack []api.Type
		want          bool
	}{
		{nil, nil, false}, {list(this), nil, true}, {list(num, this), list(this), true}, {list(this, num), nil, true}, {list(this, this), nil, true},
		{nil, list(this), false}, {list(num), list(this, this), false}, {list(made(0)), nil, false}, {list(classA), list(num), false}, {list(null, top), nil, false},
	} {
		l := []api.Map{{At: 3, Frame: api.Frame{Locals: x.locals, Stack: x.stack, Fresh: x.want}}}
		if heldMaps(t, sample(), l) != api.OK {
			t.Errorf("by hand otherwise: %s", show(l))
		}
		b, e := maps.Encode(sample(), l)
		if e != api.OK {
			t.Errorf("%s: %d", show(l), e)
		}
		l[0].Frame.Fresh = !x.want
		wrong(t, sample(), l)
		wrong(t, sample(), append(at(1), l...))
		wrong(t, sample(), append(l, at(4)...))
		l[0].Frame.Fresh = x.want
		writes(t, sample(), l, b)
	}
}

func TestEncodeTexts(t *testing.T) { // P10.2: names and descriptors that the pool has, and types of such that are none
	for s, x := range rightTexts() {
		writes(t, poolOf("Z", s), []api.Map{{At: 1, Frame: frame(list(x), nil)}}, bytesOf(one(1, of("\x07\x00\x04"), none)))
		for _, l := range both(x) {
			wrong(t, nil, l)
			wrong(t, poolOf("Z", s+"z", "z"+s, "["+s), l) // none of these is it
		}
	}
	for _, s := range wrongTexts() {
		for _, x := range []api.Type{class(s), array(1, api.KRef, s), array(4, api.KRef, s)} {
			for _, l := range both(x) {
				wrong(t, poolOf(s, "[L"+s+";", "[[[[L"+s+";"), l)
			}
		}
	}
	for _, s := range []string{"[I", "[J", "[LA;", "[[[[LA;"} { // a class can't have an array's name
		for _, l := range both(class(s)) {
			wrong(t, poolOf(s, "A"), l)
		}
	}
}

func TestEncodeNotThere(t *testing.T) { // P10.2: not in the pool, and there as another constant only
	for _, s := range []string{"B", "[J", "[LB;", "[[I", "object", ""} {
		x, _ := typeByHand(s)
		if s == "" {
			x = class(s)
		}
		for _, l := range both(x) {
			wrong(t, sample(), l)
		}
	}
	text := []api.Const{{}, utf("B")}
	for _, c := range []api.Const{
		utf("B"), {Tag: api.CName, A: 1, B: 1}, {Tag: api.CField, A: 1, B: 1}, {Tag: api.CMethod, A: 1, B: 1}, {Tag: api.CInt, A: 1}, {Tag: api.CLong, A: 1}, {A: 1}, {Tag: 8, A: 1}, {Tag: 7 + 256, A: 1}, {Tag: -7, A: 1},
		{Tag: api.CClass}, {Tag: api.CClass, A: 2}, {Tag: api.CClass, A: 3}, {Tag: api.CClass, A: -1}, {Tag: api.CClass, Text: "B"}, {Tag: api.CClass, B: 1},
	} {
		wrong(t, append(text[:2:2], c), []api.Map{{Frame: frame(list(class("B")), nil)}})
	}
	writes(t, append(text, api.Const{Tag: api.CClass, A: 1}), []api.Map{{Frame: frame(list(class("B")), nil)}}, bytesOf(one(0, of("\x07\x00\x02"), none)))
	zeroth := []api.Const{{Tag: api.CClass, A: 1}, utf("B")} // no place leads to the constant at 0
	wrong(t, zeroth, []api.Map{{Frame: frame(list(class("B")), nil)}})
	writes(t, append(zeroth, api.Const{Tag: api.CClass, A: 1}), []api.Map{{Frame: frame(list(class("B")), nil)}}, bytesOf(one(0, of("\x07\x00\x02"), none)))
}

func TestEncodeTwice(t *testing.T) { // P10.2: there twice: the earliest place counts
	for s, x := range map[string]api.Type{"B": class("B"), "[J": array(1, api.KLong, ""), "[LB;": array(1, api.KRef, "B")} {
		p := []api.Const{{}, utf("Z"), {Tag: api.CClass, A: 1}, {Tag: api.CClass, A: 6}, utf(s), {Tag: api.CClass, A: 4}, utf(s), {Tag: api.CClass, A: 4}, {Tag: api.CClass, A: 6}}
		writes(t, p, []api.Map{{Frame: frame(list(x), list(x, x))}}, bytesOf(one(0, of("\x07\x00\x03"), of("\x07\x00\x03", "\x07\x00\x03"))))
		p[3].A = 1
		writes(t, p, []api.Map{{Frame: frame(list(x), list(class("Z")))}}, bytesOf(one(0, of("\x07\x00\x05"), of("\x07\x00\x02"))))
		p[3].A, p[6].Text = 6, "other" // of another text: it is no earlier place
		writes(t, p, []api.Map{{Frame: frame(list(x), list(class("other")))}}, bytesOf(one(0, of("\x07\x00\x05"), of("\x07\x00\x03"))))
	}
}

func TestEncodeGreatPool(t *testing.T) { // P10.2, P6: places of two bytes, and places that these can't tell
	p := slices.Repeat([]api.Const{utf("B")}, 1<<16+4)
	p[1<<16-1], p[1<<16], p[1<<16+1], p[0x0102] = api.Const{Tag: api.CClass, A: 1}, api.Const{Tag: api.CClass, A: 2}, api.Const{Tag: api.CClass, A: 1}, api.Const{Tag: api.CClass, A: 1<<16 + 2}
	p[2], p[1<<16+2] = utf("Beyond"), utf("Far")
	writes(t, p, []api.Map{{Frame: frame(list(class("B"), class("Far")), nil)}}, bytesOf(one(0, of("\x07\xFF\xFF", "\x07\x01\x02"), none)))
	wrong(t, p, []api.Map{{Frame: frame(list(class("Beyond")), nil)}})
	p[1<<16-1] = utf("B")
	wrong(t, p, []api.Map{{Frame: frame(list(class("B")), nil)}})
}

func TestEncodeFaultsAnywhere(t *testing.T) { // P10.2: what can't be is found in each map, at each type
	_, l := whole()
	for i := range l {
		for _, where := range []func(f *api.Frame) []api.Type{func(f *api.Frame) []api.Type { return f.Locals }, func(f *api.Frame) []api.Type { return f.Stack }} {
			for j := range where(&l[i].Frame) {
				for _, x := range []api.Type{{K: api.KVoid}, {K: -1}, class("B"), made(-1), made(api.MaxCode + 1), {K: api.KInt, At: 1}} {
					m := clone(l)
					where(&m[i].Frame)[j] = x
					m[i].Frame.Fresh = fresh(m[i].Frame.Locals)
					wrong(t, sample(), m)
				}
			}
		}
		m := clone(l)
		m[i].At += 1000
		if e := heldMaps(t, sample(), m); (e == api.OK) != (i == len(l)-1) {
			t.Errorf("by hand %d", e)
		}
	}
}

func TestEncodeByChance(t *testing.T) { // P10.2, P10.4: maps that are mostly right
	chance := rand.New(rand.NewSource(20))
	odd := []api.Type{{K: api.KVoid}, {K: 9}, {K: -1}, class("B"), class(""), class("[I"), made(-1), made(5000), {K: api.KInt, Name: "A"}, array(5, api.KInt, ""), array(1, api.KInt, "A"), {K: api.KRef, Name: "A", At: 1}, this, array(1, api.KRef, "A")}
	count := map[api.Errno]int{}
	for range 20000 {
		l := someMaps(chance, 4)
		for i := range l {
			m := &l[i]
			switch chance.Intn(20) {
			case 0:
				m.At += chance.Intn(1000) - 500
			case 1:
				m.Frame.Fresh = !m.Frame.Fresh
			case 2:
				m.Frame.Stack = append(m.Frame.Stack, odd[chance.Intn(len(odd))])
			case 3:
				m.Frame.Locals = append(m.Frame.Locals, odd[chance.Intn(len(odd))])
			case 4:
				m.Frame.Locals = slices.Repeat(list(num), 63+chance.Intn(3))
			}
		}
		count[heldMaps(t, sample(), l)]++
	}
	if count[api.OK] < 3000 || count[api.ErrArg] < 3000 {
		t.Errorf("%v", count)
	}
}

func TestGreatest(t *testing.T) { // P10.1, P10.2, P10.4: as many maps, locals and words as there may be; they have more bytes than a frame
	name := long(api.MaxName)
	p := slices.Repeat([]api.Const{utf(name)}, api.MaxPool)
	p[api.MaxPool-1] = api.Const{Tag: api.CClass, A: 1}
	types := slices.Repeat(list(class(name)), api.MaxSlots)
	kinds := of(slices.Repeat([]string{"\x07" + u2(api.MaxPool-1)}, api.MaxSlots)...)
	var l []api.Map
	for n := range api.MaxCode + 1 {
		l = append(l, api.Map{At: n, Frame: frame(types, types)})
	}
	b := bytesOf(slices.Repeat([]string{one(0, kinds, kinds)}, api.MaxCode+1)...)
	if len(b) <= api.MaxFrame {
		t.Errorf("%d bytes", len(b))
	}
	got, e := maps.Encode(p, l)
	if e != api.OK || !bytes.Equal(got, b) {
		t.Errorf("Encode: %s, %d", show(got), e)
	}
	back, e := maps.Decode(p, b)
	if e != api.OK || !same(back, l) {
		t.Errorf("Decode: %s, %d", show(back), e)
	}
	refuses(t, p, b[:len(b)-1], api.ErrShort)
	refuses(t, p, append(b, 0), api.ErrMaps)
	l[api.MaxCode].Frame.Stack = append(types, num)
	wrong(t, p, l[api.MaxCode:])
}

func TestDecodeUndoesEncode(t *testing.T) { // P10.4: maps of all kinds of types, and of greater frames
	for _, x := range someTypes() {
		for _, y := range someTypes() {
			l := []api.Map{{At: 0, Frame: frame(list(x, y), list(y))}, {At: 4095, Frame: frame(list(y), list(x, x, y))}}
			b, e := maps.Encode(sample(), l)
			if e != api.OK {
				t.Errorf("%s: %d", show(l), e)
			}
			reads(t, sample(), b, l)
		}
	}
	chance := rand.New(rand.NewSource(30))
	for range 300 {
		l := someMaps(chance, 6)
		for i := range l {
			for range chance.Intn(58) {
				l[i].Frame.Stack = append(l[i].Frame.Stack, someTypes()[chance.Intn(13)])
			}
		}
		b, e := maps.Encode(sample(), l)
		if e != api.OK {
			t.Errorf("%s: %d", show(l), e)
		}
		reads(t, sample(), b, l)
	}
}
