package link_test

import (
	"slices"
	"testing"

	"understudy/api"
	"understudy/kind"
	"understudy/link"
)

func TestBuiltIn(t *testing.T) { // P9.1: all that is built in, as the chapter lists it
	names := []string{"Object", "Throwable", "Thread", "Sys", "NullError", "BoundsError", "CastError", "DivError", "OwnerError", "MemoryError", "DepthError", "SizeError", "StoreError"}
	supers := []int{-1, 0, 0, 0, 1, 1, 1, 1, 1, 1, 1, 1, 1}
	p := takes(t, first())
	if link.Built() != 13 || len(names) != 13 || p.Len() != 14 {
		t.Errorf("Built: %d, Len: %d", link.Built(), p.Len())
	}
	for n, name := range names {
		if p.Name(n) != name || p.Find(name) != n || p.Super(n) != supers[n] {
			t.Errorf("%d: %q, %d, %d", n, p.Name(n), p.Find(name), p.Super(n))
		}
		if c, ok := p.Class(n); ok || !same(c, api.Class{}) {
			t.Errorf("Class(%d): %v", n, c)
		}
	}
	methods := map[[2]int][3]any{
		{0, 0}: {"<init>", "()V", 0}, {0, 1}: {"wait", "()V", 0}, {0, 2}: {"notify", "()V", 0}, {0, 3}: {"notifyAll", "()V", 0},
		{1, 0}: {"<init>", "()V", 0},
		{2, 0}: {"<init>", "()V", 0}, {2, 1}: {"start", "()V", 0}, {2, 2}: {"join", "()V", 0}, {2, 3}: {"run", "()V", 0},
		{3, 0}: {"read", "()I", 8}, {3, 1}: {"clock", "()J", 8}, {3, 2}: {"write", "(J)V", 8},
	}
	for n := 4; n < 13; n++ {
		methods[[2]int{n, 0}] = [3]any{"<init>", "()V", 0}
	}
	for n := range 13 {
		for place := -1; place < 6; place++ {
			m, name, desc, ok := p.Method(n, place)
			want, isThere := methods[[2]int{n, place}]
			if ok != isThere || isThere && (want != [3]any{name, desc, m.Flags} || !sameMethod(m, api.Method{Flags: m.Flags})) {
				t.Errorf("Method(%d, %d): %v, %q, %q, %v", n, place, m, name, desc, ok)
			}
		}
	}
}

func TestFindNone(t *testing.T) { // P9.1: names that are nowhere
	p := takes(t, family()...)
	for _, name := range append(badNames(), "None", "a", "object", "Object ", "\xFF", "<init>", "main", "[LA;", "LA;", "\x00") {
		if p.Find(name) != -1 {
			t.Errorf("Find(%q): %d", name, p.Find(name))
		}
	}
}

func TestTree(t *testing.T) { // P9.1, P9.4: all classes in order, with the built in ones ahead
	p := takes(t, family()...)
	tree := p.Tree()
	want := []kind.Pair{{Name: "C", Super: "B"}, {Name: "A", Super: "Thread"}, {Name: "B", Super: "A"}, {Name: "D", Super: "Object"}}
	if len(tree) != 17 || !slices.Equal(tree[13:], want) || tree[0] != (kind.Pair{Name: "Object"}) || tree[4] != (kind.Pair{Name: "NullError", Super: "Throwable"}) {
		t.Errorf("Tree: %v", tree)
	}
	for _, pair := range [][2]int{{13, 15}, {13, 14}, {13, 2}, {13, 0}, {15, 14}, {16, 0}, {4, 1}, {13, 13}, {0, 0}} {
		if a, b := pair[0], pair[1]; !p.Sub(a, b) || a != b && p.Sub(b, a) {
			t.Errorf("Sub(%d, %d): %v, and turned about %v", a, b, p.Sub(a, b), p.Sub(b, a))
		}
	}
	for _, pair := range [][2]int{{13, 16}, {13, 1}, {16, 2}, {4, 5}, {-1, -1}, {17, 17}, {-1, 0}, {17, 0}, {0, -1}} {
		if p.Sub(pair[0], pair[1]) {
			t.Errorf("Sub(%d, %d)", pair[0], pair[1])
		}
	}
}

func TestUnmade(t *testing.T) { // P9.3: of a nil program, and of one that no call made
	for _, p := range []*link.Program{nil, {}, new(link.Program)} {
		if p.Len() != 0 || len(p.Tree()) != 0 || len(p.Statics()) != 0 || p.Main() != (api.Member{}) {
			t.Errorf("Len: %d, Tree: %v, Statics: %v, Main: %v", p.Len(), p.Tree(), p.Statics(), p.Main())
		}
		for _, n := range numbers() {
			tellsNone(t, p, n)
		}
		for _, class := range []string{"", "Object", "A", "None", "\xFF"} {
			if p.Find(class) != -1 {
				t.Errorf("Find(%q): %d", class, p.Find(class))
			}
			for _, name := range []string{"", "wait", "main", "<init>", "x"} {
				for _, desc := range []string{"", "()V", "I", "?"} {
					misses(t, p.Field, class, name, desc, api.ErrZero)
					misses(t, p.Look, class, name, desc, api.ErrZero)
					misses(t, p.Own, class, name, desc, api.ErrZero)
				}
			}
		}
	}
	if link.Built() != 13 {
		t.Errorf("Built: %d", link.Built())
	}
}

// spoilMethod writes over all lists of m, as far as they reach.
func spoilMethod(m api.Method) {
	for _, b := range [][]byte{m.Code, m.Maps} {
		b = b[:cap(b)]
		for i := range b {
			b[i] = 0xEE
		}
	}
	traps := m.Traps[:cap(m.Traps)]
	for i := range traps {
		traps[i] = api.Trap{From: -1, To: -2, Handler: -3, Type: -4}
	}
}

// spoil writes over all lists of c, as far as they reach.
func spoil(c api.Class) {
	for _, m := range c.Methods {
		spoilMethod(m)
	}
	consts, fields, methods := c.Pool[:cap(c.Pool)], c.Fields[:cap(c.Fields)], c.Methods[:cap(c.Methods)]
	for i := range consts {
		consts[i] = api.Const{Tag: api.CUtf8, Text: "spoilt", N: -1, A: -1, B: -1}
	}
	for i := range fields {
		fields[i] = api.Field{Flags: -1, Name: -1, Desc: -1}
	}
	for i := range methods {
		methods[i] = api.Method{Flags: -1, Name: -1, Desc: -1, Stack: -1, Locals: -1}
	}
}

func TestKeepsNothing(t *testing.T) { // P4: what was handed in may change afterwards
	l := family()
	classes := classesOf(l)
	for n := range classes {
		classes[n].Pool = append(classes[n].Pool, utf("more")) // with room behind
	}
	before := cloneAll(classes)
	p, e := link.Build(classes)
	if e != api.OK || !slices.EqualFunc(classes, before, same) {
		t.Fatalf("Build: %d", e)
	}
	for n, c := range classes {
		spoil(c)
		classes[n] = api.Class{}
	}
	for n := range before {
		if c, ok := p.Class(firstOwn + n); !ok || !same(c, before[n]) {
			t.Errorf("Class(%d): %s", firstOwn+n, show(c))
		}
	}
	p, _ = link.Build(classesOf(l))
	handed := classesOf(l)
	q, _ := link.Build(handed)
	for _, c := range handed {
		spoil(c)
	}
	tells(t, q, l)
	tells(t, p, l)
}

func TestAnswersAreNew(t *testing.T) { // P4: what was answered may change, and nothing else changes by that
	l := family()
	p := takes(t, l...)
	for n := range p.Len() {
		c, _ := p.Class(n)
		d, _ := p.Class(n)
		whole := clone(d)
		spoil(c)
		if !same(d, whole) {
			t.Errorf("Class(%d) shares", n)
		}
		for place := range whole.Methods {
			m, _, _, _ := p.Method(n, place)
			spoilMethod(m)
		}
		for _, types := range [][]api.Type{p.Slots(n), p.Statics()} {
			types = types[:cap(types)]
			for i := range types {
				types[i] = api.Type{K: -1, Name: "spoilt"}
			}
		}
		tree := p.Tree()
		tree = tree[:cap(tree)]
		for i := range tree {
			tree[i] = kind.Pair{Name: "spoilt", Super: "spoilt"}
		}
		tells(t, p, l)
	}
}

func TestAnswersShareNothing(t *testing.T) { // P4: no two lists of one answer share anything
	p := takes(t, family()...)
	for n := firstOwn; n < p.Len(); n++ {
		whole, _ := p.Class(n)
		for place := range whole.Methods {
			c, _ := p.Class(n)
			spoilMethod(c.Methods[place])
			for other := range c.Methods {
				if other != place && !sameMethod(c.Methods[other], whole.Methods[other]) {
					t.Errorf("Class(%d): the methods %d and %d share", n, place, other)
				}
			}
			c, _ = p.Class(n)
			code := c.Methods[place].Code[:cap(c.Methods[place].Code)]
			for i := range code {
				code[i] = 0xEE
			}
			if m := c.Methods[place]; !slices.Equal(m.Maps, whole.Methods[place].Maps) || !slices.Equal(m.Traps, whole.Methods[place].Traps) {
				t.Errorf("Class(%d): lists of the method %d share", n, place)
			}
		}
	}
}

func TestSameAgain(t *testing.T) { // P5: only what was handed in counts, and programs stand apart
	l, other := family(), chain(api.MaxClasses)
	p := build(t, l...)
	q := build(t, other...)
	for range 3 {
		tells(t, p, l)
		tells(t, q, other)
		refuses(t, first(), first())
		tells(t, build(t, l...), l)
	}
}

func TestEmptyLists(t *testing.T) { // P3: nil and empty lists are the same
	for _, empty := range []bool{false, true} {
		c, d := first().class(), spec{name: "B", super: "A"}.class()
		c.Methods[0].Traps, c.Methods[0].Maps, c.Fields, d.Fields, d.Methods = nil, nil, nil, nil, nil
		if empty {
			c.Methods[0].Traps, c.Methods[0].Maps, c.Fields, d.Fields, d.Methods = []api.Trap{}, []byte{}, []api.Field{}, []api.Field{}, []api.Method{}
		}
		p, e := link.Build([]api.Class{c, d})
		if e != api.OK {
			t.Fatalf("Build: %d", e)
		}
		for n, want := range []api.Class{c, d} {
			if got, ok := p.Class(firstOwn + n); !ok || !same(got, want) {
				t.Errorf("Class(%d): %v", firstOwn+n, got)
			}
		}
		if m, name, desc, ok := p.Method(13, 0); !ok || !sameMethod(m, c.Methods[0]) || name != "main" || desc != "()V" {
			t.Errorf("Method: %v, %q, %q", m, name, desc)
		}
		if len(p.Slots(13)) != 0 || len(p.Statics()) != 0 {
			t.Errorf("%v, %v", p.Slots(13), p.Statics())
		}
	}
}
