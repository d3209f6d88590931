package class_test

import (
	"math"
	"slices"
	"testing"

	"understudy/api"
	"understudy/class"
	"understudy/pool"
)

func TestExample(t *testing.T) { // the chapter's example
	for _, c := range []api.Class{sample(), least()} {
		b, e := class.Encode(c)
		if e != api.OK || string(b[:8]) != "\xCA\xFE\xBA\xBE\x00\x00\x00\x3D" {
			t.Errorf("Encode: %x, %d", b, e)
		}
	}
}

// names asks for the names of c, and that c stays as it is.
func names(t *testing.T, c api.Class, this, super string) {
	t.Helper()
	before := clone(c)
	if s, u := class.Name(c), class.Super(c); s != this || u != super {
		t.Errorf("of %s: %q, %q; want %q, %q", show(c), s, u, this, super)
	}
	if !same(c, before) {
		t.Errorf("what was handed in is %s; was %s", show(c), show(before))
	}
}

func TestNames(t *testing.T) { // P5.2
	names(t, sample(), "A", "Object")
	names(t, least(), "", "") // a class whose name is the empty text
	for at, s := range map[int]string{thisAt: "A", superAt: "Object", trapAt: "Throwable"} {
		c := sample()
		c.This = at
		names(t, c, s, "Object")
		c = sample()
		c.Super = at
		names(t, c, "A", s)
		c.This = at
		names(t, c, s, s)
	}
	d, _ := class.Decode(lay(sample()).b)
	names(t, d, "A", "Object")
}

func TestNamesOfNone(t *testing.T) { // P5.2, P1, P6
	names(t, api.Class{}, "", "")
	names(t, api.Class{Pool: []api.Const{}}, "", "")
	names(t, api.Class{This: thisAt, Super: superAt}, "", "")
	for _, at := range places() {
		if tagAt(samplePool(), at) == api.CClass {
			continue
		}
		c := sample()
		c.This = at
		names(t, c, "", "Object")
		c = sample()
		c.Super = at
		names(t, c, "A", "")
	}
}

func TestNamesOfAnyClass(t *testing.T) { // P5.2: of any pool what pool.Class tells
	pools := [][]api.Const{
		nil, {{}}, {{Tag: api.CClass, A: 1}, utf("a")}, {{Tag: api.CUtf8, Text: "a"}, {Tag: api.CClass, A: 0}},
		{{}, {Tag: api.CClass, A: 1}}, {{}, {Tag: api.CClass, A: -1}, {Tag: api.CClass, A: 3}, utf("\xFF")},
		{{}, {Tag: api.CClass, A: 2}, {Tag: 99}}, {{}, {Tag: api.CClass, A: math.MaxInt}, {Tag: api.CClass, A: 4, B: 5, N: 6}, {}, utf("a")},
		append(make([]api.Const, 2000), utf("far"), api.Const{Tag: api.CClass, A: 2000}), samplePool(),
	}
	for _, p := range pools {
		for _, at := range append(places(), 2000, 2001, 2002) {
			want, _ := pool.Class(p, at)
			names(t, api.Class{Pool: p, This: at}, want, "")
			names(t, api.Class{Pool: p, Super: at, Fields: make([]api.Field, 100), Methods: make([]api.Method, 100)}, "", want)
		}
	}
	names(t, api.Class{Pool: pools[8], This: 2001, Super: 2001}, "far", "far")
	c := sample() // wrong in all else
	c.Fields, c.Methods = make([]api.Field, 100), slices.Repeat([]api.Method{{Flags: -1}}, 100)
	names(t, c, "A", "Object")
}
