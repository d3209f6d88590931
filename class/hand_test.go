package class_test

import (
	"encoding/binary"

	"understudy/api"
	"understudy/pool"
)

// tagAt answers the tag at the place i: 0 where the place leads nowhere.
func tagAt(p []api.Const, i int) int {
	if i < 1 || i >= len(p) {
		return 0
	}
	return p[i].Tag
}

// methodByHand tells whether m can be in a class with the pool p, as the chapter's words go.
func methodByHand(p []api.Const, m api.Method) bool {
	right := first(p, "Code") != 0 && (len(m.Maps) == 0 || first(p, "StackMapTable") != 0)
	right = right && (m.Flags == 0 || m.Flags == 8) && tagAt(p, m.Name) == api.CUtf8 && tagAt(p, m.Desc) == api.CUtf8
	right = right && m.Stack >= 0 && m.Stack <= 64 && m.Locals >= 0 && m.Locals <= 64
	right = right && len(m.Code) >= 1 && len(m.Code) <= 4096 && len(m.Maps) <= 4096
	for _, t := range m.Traps {
		right = right && 0 <= t.From && t.From < t.To && t.To <= len(m.Code) && 0 <= t.Handler && t.Handler < len(m.Code)
		right = right && (t.Type == 0 || tagAt(p, t.Type) == api.CClass)
	}
	return right
}

// checkByHand tells what is wrong with c, as the chapter tells it.
func checkByHand(c api.Class) api.Errno {
	if e := pool.Check(c.Pool); e != api.OK {
		return e
	}
	long := len(c.Fields) > 64 || len(c.Methods) > 64
	right := tagAt(c.Pool, c.This) == api.CClass && tagAt(c.Pool, c.Super) == api.CClass
	for _, f := range c.Fields {
		right = right && (f.Flags == 0 || f.Flags == 8) && tagAt(c.Pool, f.Name) == api.CUtf8 && tagAt(c.Pool, f.Desc) == api.CUtf8
	}
	for _, m := range c.Methods {
		long = long || len(m.Traps) > 64
		right = right && methodByHand(c.Pool, m)
	}
	switch {
	case long:
		return api.ErrLong
	case !right:
		return api.ErrClass
	}
	return api.OK
}

// hand reads a class file: of what is behind the first error nothing counts.
type hand struct {
	b []byte
	e api.Errno
	p []api.Const
}

// fail keeps the first error.
func (h *hand) fail(wrong bool, e api.Errno) {
	if wrong && h.e == api.OK {
		h.e = e
	}
}

// take reads n bytes.
func (h *hand) take(n int) []byte {
	h.fail(n > len(h.b), api.ErrShort)
	if h.e != api.OK {
		return make([]byte, n)
	}
	b := h.b[:n]
	h.b = h.b[n:]
	return b
}

func (h *hand) two() int      { return int(binary.BigEndian.Uint16(h.take(2))) }
func (h *hand) four() int     { return int(binary.BigEndian.Uint32(h.take(4))) }
func (h *hand) must(now bool) { h.fail(!now, api.ErrClass) }

// most reads no more than that: of an error nothing.
func (h *hand) most(n, most int) int {
	h.fail(n > most, api.ErrLong)
	if h.e != api.OK {
		return 0
	}
	return n
}

// method reads a method.
func (h *hand) method() api.Method {
	var m api.Method
	m.Flags = h.two()
	m.Name = h.two()
	m.Desc = h.two()
	h.must(h.two() == 1)
	at := h.two()
	h.must(tagAt(h.p, at) == api.CUtf8 && h.p[at].Text == "Code")
	size := h.four()
	left := len(h.b)
	m.Stack = h.two()
	m.Locals = h.two()
	m.Code = h.take(h.most(h.four(), 4096))
	for range h.most(h.two(), 64) {
		var t api.Trap
		t.From = h.two()
		t.To = h.two()
		t.Handler = h.two()
		t.Type = h.two()
		m.Traps = append(m.Traps, t)
	}
	n := h.two()
	h.must(n <= 1)
	if n == 1 {
		at := h.two()
		h.must(tagAt(h.p, at) == api.CUtf8 && h.p[at].Text == "StackMapTable")
		m.Maps = h.take(h.most(h.four(), 4096))
		h.must(len(m.Maps) > 0)
	}
	h.must(left-len(h.b) == size)
	return m
}

// pool reads the pool.
func (h *hand) pool() {
	if h.e != api.OK {
		return
	}
	p, n, e := pool.Decode(h.b)
	h.fail(e != api.OK, e)
	h.p, h.b = p, h.b[n:]
}

// decodeByHand reads the class file b, as the chapter tells it.
func decodeByHand(b []byte) (api.Class, api.Errno) {
	h := &hand{b: b}
	h.must(h.four() == 0xCAFEBABE)
	h.must(h.four() == 0x3D)
	h.pool()
	h.must(h.two() == 0)
	c := api.Class{Pool: h.p}
	c.This = h.two()
	c.Super = h.two()
	h.must(h.two() == 0)
	for range h.most(h.two(), 64) {
		var f api.Field
		f.Flags = h.two()
		f.Name = h.two()
		f.Desc = h.two()
		h.must(h.two() == 0)
		c.Fields = append(c.Fields, f)
	}
	for range h.most(h.two(), 64) {
		c.Methods = append(c.Methods, h.method())
	}
	h.must(h.two() == 0)
	h.must(len(h.b) == 0)
	if h.e == api.OK {
		h.e = checkByHand(c)
	}
	if h.e != api.OK {
		return api.Class{}, h.e
	}
	return c, api.OK
}
