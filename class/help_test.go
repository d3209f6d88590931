package class_test

import (
	"bytes"
	"encoding/binary"
	"fmt"
	"slices"
	"testing"

	"understudy/api"
	"understudy/class"
	"understudy/pool"
)

// utf answers a text.
func utf(s string) api.Const { return api.Const{Tag: api.CUtf8, Text: s} }

// Places of the sample's pool.
const (
	mapsAt   = 1 // the text StackMapTable
	thisAt   = 3
	superAt  = 5
	mainAt   = 6 // the text main
	codeAt   = 8 // the text Code
	fAt      = 9 // the text f
	intAt    = 10
	code2At  = 16 // the text Code once more
	maps2At  = 17
	trapAt   = 18
	emptyAt  = 20 // the empty text
	behindAt = 21
)

// samplePool answers a right pool with constants of all tags, the texts Code and StackMapTable in it twice.
func samplePool() []api.Const {
	return []api.Const{
		{},
		utf("StackMapTable"),
		utf("A"),
		{Tag: api.CClass, A: 2},
		utf("Object"),
		{Tag: api.CClass, A: 4},
		utf("main"),
		utf("()V"),
		utf("Code"),
		utf("f"),
		utf("I"),
		{Tag: api.CName, A: fAt, B: intAt},
		{Tag: api.CField, A: thisAt, B: 11},
		{Tag: api.CMethod, A: superAt, B: 11},
		{Tag: api.CInt, N: -7},
		{Tag: api.CLong, N: 1<<40 + 5},
		utf("Code"),
		utf("StackMapTable"),
		{Tag: api.CClass, A: 19},
		utf("Throwable"),
		utf(""),
	}
}

// sample answers a right class: methods with and without traps and maps.
func sample() api.Class {
	return api.Class{
		Pool: samplePool(), This: thisAt, Super: superAt,
		Fields: []api.Field{{Flags: api.Static, Name: fAt, Desc: intAt}, {Flags: 0, Name: mainAt, Desc: emptyAt}},
		Methods: []api.Method{
			{Flags: api.Static, Name: mainAt, Desc: 7, Stack: 2, Locals: 3, Code: []byte{3, 87, 0xFF, 0, 177}, Traps: []api.Trap{{From: 0, To: 5, Handler: 4, Type: trapAt}, {From: 1, To: 2}}, Maps: []byte{0, 1, 0xFF}},
			{Flags: 0, Name: fAt, Desc: 7, Stack: 0, Locals: 64, Code: []byte{177}},
			{Flags: 0, Name: emptyAt, Desc: 2, Stack: 64, Locals: 0, Code: []byte{1, 2}, Maps: []byte{9}},
			{Flags: api.Static, Name: fAt, Desc: intAt, Code: []byte{0, 0, 0}, Traps: []api.Trap{{From: 2, To: 3, Handler: 0, Type: thisAt}}},
		},
	}
}

// least answers the right class with the fewest bytes.
func least() api.Class {
	return api.Class{Pool: []api.Const{{}, {Tag: api.CClass, A: 2}, utf("")}, This: 1, Super: 1}
}

// clone answers a class that shares nothing with c.
func clone(c api.Class) api.Class {
	c.Pool, c.Fields, c.Methods = slices.Clone(c.Pool), slices.Clone(c.Fields), slices.Clone(c.Methods)
	for i := range c.Methods {
		m := &c.Methods[i]
		m.Code, m.Traps, m.Maps = bytes.Clone(m.Code), slices.Clone(m.Traps), bytes.Clone(m.Maps)
	}
	return c
}

// same tells whether two classes are the same: nil and empty lists are (P3).
func same(c, d api.Class) bool {
	return c.This == d.This && c.Super == d.Super && slices.Equal(c.Pool, d.Pool) && slices.Equal(c.Fields, d.Fields) && slices.EqualFunc(c.Methods, d.Methods, func(m, n api.Method) bool {
		return m.Flags == n.Flags && m.Name == n.Name && m.Desc == n.Desc && m.Stack == n.Stack && m.Locals == n.Locals && bytes.Equal(m.Code, n.Code) && slices.Equal(m.Traps, n.Traps) && bytes.Equal(m.Maps, n.Maps)
	})
}

// isZero tells whether nothing stands in c.
func isZero(c api.Class) bool {
	return len(c.Pool) == 0 && c.This == 0 && c.Super == 0 && len(c.Fields) == 0 && len(c.Methods) == 0
}

// show tells a class, as far as it is short.
func show(c api.Class) string {
	s := fmt.Sprintf("%d constants, %d, %d, %d fields, %d methods %+v", len(c.Pool), c.This, c.Super, len(c.Fields), len(c.Methods), c)
	return s[:min(700, len(s))]
}

// part is a number of a class file, or a list of bytes: what it is, where it stands.
type part struct {
	what     string
	at, size int
}

// file is a class file that is laid by hand, part by part.
type file struct {
	b     []byte
	parts []part
}

// put lays the number x in size bytes.
func (f *file) put(what string, size, x int) {
	f.parts = append(f.parts, part{what, len(f.b), size})
	f.b = append(f.b, binary.BigEndian.AppendUint64(nil, uint64(x))[8-size:]...)
}

// list lays bytes.
func (f *file) list(what string, b []byte) {
	f.parts = append(f.parts, part{what, len(f.b), len(b)})
	f.b = append(f.b, b...)
}

// with answers the file with x in place of the number p.
func (f file) with(p part, x int) []byte {
	b := bytes.Clone(f.b)
	copy(b[p.at:], binary.BigEndian.AppendUint64(nil, uint64(x))[8-p.size:])
	return b
}

// value answers the number p.
func (f file) value(p part) int {
	return int(binary.BigEndian.Uint64(append(make([]byte, 8-p.size), f.b[p.at:p.at+p.size]...)))
}

// called answers the parts of that name.
func (f file) called(what string) []part {
	return slices.DeleteFunc(slices.Clone(f.parts), func(p part) bool { return p.what != what })
}

// first answers the first place of the text s: 0 where it is not there.
func first(p []api.Const, s string) int {
	for i, c := range p {
		if c.Tag == api.CUtf8 && c.Text == s {
			return i
		}
	}
	return 0
}

// layMethod lays a method of a class with the pool p. Maps of 0 bytes are laid where they are not nil.
func (f *file) layMethod(p []api.Const, m api.Method) {
	f.put("flags", 2, m.Flags)
	f.put("name", 2, m.Name)
	f.put("descriptor", 2, m.Desc)
	f.put("fixed", 2, 1)
	f.put("place of Code", 2, first(p, "Code"))
	size := 12 + len(m.Code) + 8*len(m.Traps)
	if m.Maps != nil {
		size += 6 + len(m.Maps)
	}
	f.put("bytes that follow", 4, size)
	f.put("stack", 2, m.Stack)
	f.put("locals", 2, m.Locals)
	f.put("bytes of code", 4, len(m.Code))
	f.list("code", m.Code)
	f.put("members", 2, len(m.Traps))
	for _, t := range m.Traps {
		f.put("from", 2, t.From)
		f.put("to", 2, t.To)
		f.put("handler", 2, t.Handler)
		f.put("type", 2, t.Type)
	}
	if m.Maps == nil {
		f.put("maps or none", 2, 0)
		return
	}
	f.put("maps or none", 2, 1)
	f.put("place of StackMapTable", 2, first(p, "StackMapTable"))
	f.put("bytes of maps", 4, len(m.Maps))
	f.list("maps", m.Maps)
}

// lay lays the class c, right or not, though with a right pool.
func lay(c api.Class) file {
	var f file
	f.put("fixed", 4, 0xCAFEBABE)
	f.put("fixed", 4, 0x3D)
	b, _ := pool.Encode(c.Pool)
	f.list("pool", b)
	f.put("fixed", 2, 0)
	f.put("this", 2, c.This)
	f.put("super", 2, c.Super)
	f.put("fixed", 2, 0)
	f.put("members", 2, len(c.Fields))
	for _, x := range c.Fields {
		f.put("flags", 2, x.Flags)
		f.put("name", 2, x.Name)
		f.put("descriptor", 2, x.Desc)
		f.put("fixed", 2, 0)
	}
	f.put("members", 2, len(c.Methods))
	for _, m := range c.Methods {
		f.layMethod(c.Pool, m)
	}
	f.put("fixed", 2, 0)
	return f
}

// canBeLaid tells whether each number of c stands in its bytes, so that its file tells c and no other class.
func canBeLaid(c api.Class) bool {
	if pool.Check(c.Pool) != api.OK || len(c.Fields) > 1<<16-1 || len(c.Methods) > 1<<16-1 {
		return false
	}
	l := []int{c.This, c.Super}
	for _, f := range c.Fields {
		l = append(l, f.Flags, f.Name, f.Desc)
	}
	for _, m := range c.Methods {
		l = append(l, m.Flags, m.Name, m.Desc, m.Stack, m.Locals, len(m.Traps))
		for _, t := range m.Traps {
			l = append(l, t.From, t.To, t.Handler, t.Type)
		}
	}
	return !slices.ContainsFunc(l, func(n int) bool { return n < 0 || n > 1<<16-1 })
}

// refused asks that c is wrong, has no bytes, and is not read from those that are laid by hand.
func refused(t *testing.T, c api.Class, want api.Errno) {
	t.Helper()
	before := clone(c)
	if e := class.Check(c); e != want {
		t.Errorf("Check of %s: %d; want %d", show(c), e, want)
	}
	if b, e := class.Encode(c); len(b) != 0 || e != want {
		t.Errorf("Encode of %s: %.20x, %d; want none, %d", show(c), b, e, want)
	}
	if !same(c, before) {
		t.Errorf("what was handed in is %s; was %s", show(c), show(before))
	}
	if canBeLaid(c) {
		f := lay(c)
		_, e := decodeByHand(f.b)
		if e == api.OK {
			t.Errorf("by hand %s is read from its bytes", show(c))
		}
		noClass(t, f.b, e)
	}
}

// goesRound asks that c is right, has its bytes, and is read from them again. It answers them.
func goesRound(t *testing.T, c api.Class) []byte {
	t.Helper()
	before := clone(c)
	if e := class.Check(c); e != api.OK {
		t.Fatalf("Check of %s: %d", show(c), e)
	}
	b, e := class.Encode(c)
	laid := clone(c)
	for i := range laid.Methods {
		if len(laid.Methods[i].Maps) == 0 {
			laid.Methods[i].Maps = nil
		}
	}
	if want := lay(laid).b; e != api.OK || !bytes.Equal(b, want) {
		t.Fatalf("Encode of %s: %.300x, %d; want %.300x", show(c), b, e, want)
	}
	reads(t, b, c)
	if !same(c, before) {
		t.Fatalf("what was handed in is %s; was %s", show(c), show(before))
	}
	return b
}

// reads asks that b is a class file of c.
func reads(t *testing.T, b []byte, c api.Class) {
	t.Helper()
	before := bytes.Clone(b)
	if d, e := class.Decode(b); !same(d, c) || e != api.OK {
		t.Errorf("Decode of %d bytes %.300x: %s, %d; want %s", len(b), b, show(d), e, show(c))
	}
	if !bytes.Equal(b, before) {
		t.Errorf("Decode changed %.300x into %.300x", before, b)
	}
}

// noClass asks that b is no class file.
func noClass(t *testing.T, b []byte, want api.Errno) {
	t.Helper()
	before := bytes.Clone(b)
	if c, e := class.Decode(b); !isZero(c) || e != want {
		t.Errorf("Decode of %d bytes %.300x: %s, %d; want none, %d", len(b), b, show(c), e, want)
	}
	if !bytes.Equal(b, before) {
		t.Errorf("Decode changed %.300x into %.300x", before, b)
	}
}

// chance makes numbers by a short rule.
func chance(seed uint64) func(n int) int {
	return func(n int) int {
		seed = seed*6364136223846793005 + 1442695040888963407
		return int(seed >> 33 % uint64(n))
	}
}
