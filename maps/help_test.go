package maps_test

import (
	"bytes"
	"encoding/binary"
	"fmt"
	"math"
	"math/rand"
	"regexp"
	"slices"
	"strconv"
	"strings"
	"testing"

	"understudy/api"
	"understudy/maps"
)

// Types of the kinds that have no part beside, and of the most usual classes.
var (
	top    = api.Type{K: api.KTop}
	num    = api.Type{K: api.KInt}
	wide   = api.Type{K: api.KLong}
	null   = api.Type{K: api.KNull}
	this   = api.Type{K: api.KThis}
	classA = api.Type{K: api.KRef, Name: "A"}
	object = api.Type{K: api.KRef, Name: "Object"}
	ints   = api.Type{K: api.KArray, Dims: 1, Elem: api.KInt}
)

// made answers the type of what new made at the place at.
func made(at int) api.Type { return api.Type{K: api.KNew, At: at} }

// class answers the type of the class with that name.
func class(name string) api.Type { return api.Type{K: api.KRef, Name: name} }

// array answers the type of an array.
func array(dims, elem int, name string) api.Type {
	return api.Type{K: api.KArray, Dims: dims, Elem: elem, Name: name}
}

// fresh tells whether Fresh is said of a frame with those locals.
func fresh(locals []api.Type) bool {
	for _, x := range locals {
		if x.K == api.KThis {
			return true
		}
	}
	return false
}

// frame answers a frame with Fresh as it must be.
func frame(locals, stack []api.Type) api.Frame {
	return api.Frame{Locals: locals, Stack: stack, Fresh: fresh(locals)}
}

// list answers its types as a list.
func list(l ...api.Type) []api.Type { return l }

// long answers a name of n bytes.
func long(n int) string { return strings.Repeat("Name", n/4+1)[:n] }

// utf answers a text.
func utf(s string) api.Const { return api.Const{Tag: api.CUtf8, Text: s} }

// rightTexts are texts of classes that tell types, and what they tell.
func rightTexts() map[string]api.Type {
	return map[string]api.Type{
		"A": classA, "Object": object, "I": class("I"), "V": class("V"), "()V": class("()V"), "\xFF": class("\xFF"), "\u00E9": class("\u00E9"), " ": class(" "), "\x00": class("\x00"), "L": class("L"), "LA": class("LA"),
		long(api.MaxName): class(long(api.MaxName)), strings.Repeat("\u00E9", api.MaxName/2): class(strings.Repeat("\u00E9", api.MaxName/2)),
		"[I": ints, "[J": array(1, api.KLong, ""), "[[I": array(2, api.KInt, ""), "[[[[J": array(4, api.KLong, ""),
		"[LA;": array(1, api.KRef, "A"), "[[[[LObject;": array(4, api.KRef, "Object"), "[LI;": array(1, api.KRef, "I"),
		"[L" + long(api.MaxName) + ";": array(1, api.KRef, long(api.MaxName)), "[[[[L" + long(api.MaxName) + ";": array(4, api.KRef, long(api.MaxName)),
	}
}

// wrongTexts are texts of classes that tell no type.
func wrongTexts() []string {
	l := []string{"", "LA;", "A;", "a.b", "a/b", "<init>", "A[", "A[]", "A>", long(api.MaxName + 1), long(4 * api.MaxName), strings.Repeat("\u00E9", api.MaxName/2) + "e"}
	l = append(l, "[", "[[", "[V", "[A", "[L;", "[LA", "[LA;;", "[II", "[I;", "[ILA;", "[[[[[I", "[[[[[LA;", "[()V", "[La.b;", "[L<init>;", "[L[I;", "[L"+long(api.MaxName+1)+";", "[i", "[ I", "[I ", " [I")
	return l
}

// poolOf answers a pool with the classes of the texts, the first one's at 2, each further one's two places behind.
func poolOf(texts ...string) []api.Const {
	p := []api.Const{{}}
	for _, s := range texts {
		p = append(p, utf(s), api.Const{Tag: api.CClass, A: len(p)})
	}
	return p
}

// Places of the sample's pool.
const (
	atA      = 2
	atObject = 4
	atInts   = 6
	atGrid   = 8  // the class of the text [[LA;
	againA   = 9  // another class of the same text
	otherA   = 11 // a class of another text A
	onlyText = 12 // the text B, of which there is no class
	behind   = 24 // none
)

// sample answers a pool with constants of all tags, some of them such as no right pool has.
func sample() []api.Const {
	return append(poolOf("A", "Object", "[I", "[[LA;"),
		api.Const{Tag: api.CClass, A: 1}, utf("A"), api.Const{Tag: api.CClass, A: 10}, utf("B"),
		api.Const{Tag: api.CName, A: onlyText, B: 5}, api.Const{Tag: api.CField, A: 2, B: 13}, api.Const{Tag: api.CMethod, A: 2, B: 13}, api.Const{Tag: api.CInt, N: 1}, api.Const{Tag: api.CLong, N: 1},
		api.Const{Tag: api.CClass, A: 2}, api.Const{Tag: api.CClass}, api.Const{Tag: api.CClass, A: -1}, api.Const{Tag: api.CClass, A: 9999},
		api.Const{Tag: 99, A: 1}, api.Const{A: 1, Text: "A"})
}

// u2 answers n in two bytes.
func u2(n int) string { return string([]byte{byte(n >> 8), byte(n)}) }

// of answers the bytes of types: how many, and they.
func of(types ...string) string { return u2(len(types)) + strings.Join(types, "") }

// bytesOf answers the bytes of maps, each of which is a step, what locals there are, and what stack.
func bytesOf(l ...string) []byte { return []byte(u2(len(l)) + strings.Join(l, "")) }

// one answers the bytes of a map.
func one(step int, locals, stack string) string { return "\xFF" + u2(step) + locals + stack }

// typeByHand answers what Type answers, as the chapter tells it.
func typeByHand(name string) (api.Type, bool) {
	if nameRight.MatchString(name) {
		return class(name), len(name) <= api.MaxName
	}
	m := arrayRight.FindStringSubmatch(name)
	if m == nil || len(m[3]) > api.MaxName {
		return api.Type{}, false
	}
	return array(len(m[1]), map[byte]int{'I': api.KInt, 'J': api.KLong, 'L': api.KRef}[m[2][0]], m[3]), true
}

var (
	nameRight  = regexp.MustCompile(`^[^.;\[/<>]+$`)
	arrayRight = regexp.MustCompile(`^(\[{1,4})(I|J|L([^.;\[/<>]+);)$`)
)

// textAt answers the text of the class at the place i.
func textAt(p []api.Const, i int) string {
	if i < 1 || i >= len(p) || p[i].Tag != api.CClass {
		return ""
	}
	a := p[i].A
	if a < 1 || a >= len(p) || p[a].Tag != api.CUtf8 {
		return ""
	}
	return p[a].Text
}

// hand reads by hand: the first error stays, and nothing is read behind it.
type hand struct {
	p []api.Const
	b []byte
	e api.Errno
}

func (h *hand) ask(right bool) {
	if h.e == api.OK && !right {
		h.e = api.ErrMaps
	}
}

func (h *hand) take(n int) int {
	if h.e == api.OK && len(h.b) < n {
		h.e = api.ErrShort
	}
	if h.e != api.OK {
		return 0
	}
	x := binary.BigEndian.Uint64(append(make([]byte, 8-n), h.b[:n]...))
	h.b = h.b[n:]
	return int(x)
}

func (h *hand) types() []api.Type {
	n := h.take(2)
	h.ask(n <= api.MaxSlots)
	l := []api.Type{}
	for len(l) < n && h.e == api.OK {
		var x api.Type
		switch h.take(1) {
		case 0:
			x = top
		case 1:
			x = num
		case 4:
			x = wide
		case 5:
			x = null
		case 6:
			x = this
		case 7:
			var is bool
			x, is = typeByHand(textAt(h.p, h.take(2)))
			h.ask(is)
		case 8:
			x = made(h.take(2))
			h.ask(x.At <= api.MaxCode)
		default:
			h.ask(false)
		}
		l = append(l, x)
	}
	return l
}

// decodeByHand answers what Decode answers, as the chapter tells it.
func decodeByHand(p []api.Const, b []byte) ([]api.Map, api.Errno) {
	if len(b) == 0 {
		return nil, api.OK
	}
	h := &hand{p: p, b: b}
	n := h.take(2)
	var l []api.Map
	for len(l) < n && h.e == api.OK {
		h.ask(h.take(1) == 0xFF)
		at := h.take(2)
		if len(l) > 0 {
			at += l[len(l)-1].At + 1
		}
		h.ask(at <= api.MaxCode)
		locals := h.types()
		l = append(l, api.Map{At: at, Frame: frame(locals, h.types())})
	}
	h.ask(len(h.b) == 0)
	if h.e != api.OK {
		return nil, h.e
	}
	return l, api.OK
}

// typeBytes answers the bytes of a type, as the chapter tells them: none, if it can't be written.
func typeBytes(p []api.Const, x api.Type) string {
	switch x {
	case top:
		return "\x00"
	case num:
		return "\x01"
	case wide:
		return "\x04"
	case null:
		return "\x05"
	case this:
		return "\x06"
	case made(x.At):
		if x.At >= 0 && x.At <= api.MaxCode {
			return "\x08" + u2(x.At)
		}
	}
	for i := range min(len(p), 1<<16) {
		if y, is := typeByHand(textAt(p, i)); is && y == x {
			return "\x07" + u2(i)
		}
	}
	return ""
}

// encodeByHand answers what Encode answers, as the chapter tells it.
func encodeByHand(p []api.Const, l []api.Map) ([]byte, api.Errno) {
	var all []string
	next := 0
	for _, m := range l {
		var halves []string
		for _, types := range [][]api.Type{m.Frame.Locals, m.Frame.Stack} {
			var s []string
			for _, x := range types {
				s = append(s, typeBytes(p, x))
			}
			if len(s) > api.MaxSlots || slices.Contains(s, "") {
				return nil, api.ErrArg
			}
			halves = append(halves, of(s...))
		}
		if m.At < next || m.At > api.MaxCode || m.Frame.Fresh != fresh(m.Frame.Locals) {
			return nil, api.ErrArg
		}
		all = append(all, one(m.At-next, halves[0], halves[1]))
		next = m.At + 1
	}
	if len(l) == 0 {
		return nil, api.OK
	}
	return bytesOf(all...), api.OK
}

// same tells whether two lists of maps are the same: nil and empty lists are (P3).
func same(l, m []api.Map) bool {
	return slices.EqualFunc(l, m, func(a, b api.Map) bool {
		return a.At == b.At && a.Frame.Fresh == b.Frame.Fresh && slices.Equal(a.Frame.Locals, b.Frame.Locals) && slices.Equal(a.Frame.Stack, b.Frame.Stack)
	})
}

// clone answers maps that share nothing with l.
func clone(l []api.Map) []api.Map {
	l = slices.Clone(l)
	for i := range l {
		l[i].Frame.Locals, l[i].Frame.Stack = slices.Clone(l[i].Frame.Locals), slices.Clone(l[i].Frame.Stack)
	}
	return l
}

// show tells x, as far as it is short.
func show(x any) string {
	s := fmt.Sprintf("%v", x)
	if b, is := x.([]byte); is {
		s = fmt.Sprintf("%d bytes % x", len(b), b)
	}
	return strconv.QuoteToASCII(s[:min(300, len(s))])
}

// spoil writes over all that maps hold, as far as their lists may grow, and asks that no two lists share what they have.
func spoil(t *testing.T, l []api.Map) {
	t.Helper()
	var lists [][]api.Type
	for _, m := range l {
		lists = append(lists, m.Frame.Locals[:cap(m.Frame.Locals)], m.Frame.Stack[:cap(m.Frame.Stack)])
	}
	for i, x := range lists {
		for j := range x {
			x[j] = api.Type{K: -1 - i, Name: "spoilt"}
		}
	}
	for i, x := range lists {
		for _, y := range x {
			if y.K != -1-i {
				t.Errorf("two lists of one answer share what they have")
				return
			}
		}
	}
	l = l[:cap(l)]
	for i := range l {
		l[i] = api.Map{At: -7}
	}
}

// reads asks that Decode answers just want: twice, with the first answer spoilt, and all that is handed in as it was.
func reads(t *testing.T, p []api.Const, b []byte, want []api.Map) {
	t.Helper()
	q, c := slices.Clone(p), slices.Clone(b)
	for range 2 {
		l, e := maps.Decode(p, b)
		if e != api.OK || !same(l, want) {
			t.Errorf("of %s: %s, %d; want %s", show(b), show(l), e, show(want))
			return
		}
		spoil(t, l)
		if !slices.Equal(p, q) || !bytes.Equal(b, c) {
			t.Errorf("changed what was handed in: %s", show(c))
		}
	}
}

// refuses asks that Decode answers the error e, and nothing beside it.
func refuses(t *testing.T, p []api.Const, b []byte, e api.Errno) {
	t.Helper()
	q, c := slices.Clone(p), slices.Clone(b)
	for range 2 {
		if l, f := maps.Decode(p, b); f != e || l != nil {
			t.Errorf("of %s: %s, %d; want %d", show(b), show(l), f, e)
		}
	}
	if !slices.Equal(p, q) || !bytes.Equal(b, c) {
		t.Errorf("changed what was handed in: %s", show(c))
	}
}

// held holds what Decode answers against a reading by hand, and answers that one's error.
func held(t *testing.T, p []api.Const, b []byte) api.Errno {
	t.Helper()
	want, e := decodeByHand(p, b)
	if e != api.OK {
		refuses(t, p, b, e)
	} else {
		reads(t, p, b, want)
	}
	return e
}

// writes asks that Encode answers just want: twice, with the first answer spoilt, and all that is handed in as it was; and that Decode undoes it.
func writes(t *testing.T, p []api.Const, l []api.Map, want []byte) {
	t.Helper()
	q, m := slices.Clone(p), clone(l)
	for range 2 {
		b, e := maps.Encode(p, l)
		if e != api.OK || !bytes.Equal(b, want) {
			t.Errorf("of %s: %s, %d; want %s", show(l), show(b), e, show(want))
			return
		}
		b = b[:cap(b)]
		for i := range b {
			b[i] = 0xAA
		}
		if !slices.Equal(p, q) || !same(l, m) {
			t.Errorf("changed what was handed in: %s", show(m))
		}
	}
	reads(t, p, want, l)
}

// wrong asks that Encode refuses l.
func wrong(t *testing.T, p []api.Const, l []api.Map) {
	t.Helper()
	q, m := slices.Clone(p), clone(l)
	for range 2 {
		if b, e := maps.Encode(p, l); e != api.ErrArg || b != nil {
			t.Errorf("of %s: %s, %d; want ErrArg", show(l), show(b), e)
		}
	}
	if !slices.Equal(p, q) || !same(l, m) {
		t.Errorf("changed what was handed in: %s", show(m))
	}
}

// heldMaps holds what Encode answers against a writing by hand, and answers that one's error.
func heldMaps(t *testing.T, p []api.Const, l []api.Map) api.Errno {
	t.Helper()
	want, e := encodeByHand(p, l)
	if e != api.OK {
		wrong(t, p, l)
	} else {
		writes(t, p, l, want)
	}
	return e
}

// numbers are all kinds, and what is none on both sides.
func numbers() []int {
	l := []int{math.MinInt, math.MinInt32, -1 << 16, -1 << 8, 1 << 8, 1<<8 + 1, 1<<8 + 4, 1 << 16, 1<<16 + 5, 1 << 32, 1<<32 + 1, math.MaxInt}
	for n := -3; n < 20; n++ {
		l = append(l, n)
	}
	return l
}

// someTypes are types of all kinds that can be written with the sample's pool.
func someTypes() []api.Type {
	return []api.Type{top, num, wide, null, this, classA, object, ints, array(2, api.KRef, "A"), made(0), made(1), made(258), made(api.MaxCode)}
}

// someMaps answers maps of a short rule: all right with the sample's pool.
func someMaps(chance *rand.Rand, most int) []api.Map {
	some := func() []api.Type {
		var l []api.Type
		for range chance.Intn(most + 1) {
			l = append(l, someTypes()[chance.Intn(13)])
		}
		return l
	}
	var l []api.Map
	at := -1
	for range chance.Intn(most + 1) {
		at += 1 + chance.Intn(1+chance.Intn(600))
		l = append(l, api.Map{At: at, Frame: frame(some(), some())})
	}
	return l
}
