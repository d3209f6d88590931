package rules_test

import (
	"slices"
	"strconv"
	"strings"
	"testing"

	"understudy/api"
	"understudy/link"
	"understudy/rules"
)

func TestAt(t *testing.T) { // P11.1: each method of each class of the list, and no other
	p := program(9, 9)
	l := family()
	numbers := ends()
	for n := -3; n < 40; n++ {
		numbers = append(numbers, n)
	}
	for _, class := range numbers {
		for _, method := range numbers {
			want := api.ErrMissing
			if n := class - firstOwn; n >= 0 && n < len(l) && method >= 0 && method < len(l[n].methods) {
				want = api.OK
			}
			if x, e := rules.At(p, class, method); e != want || (x != nil) != (want == api.OK) {
				t.Errorf("At(%d, %d): %v, %d; want %d", class, method, x != nil, e, want)
			}
		}
	}
}

func TestAtEdges(t *testing.T) { // P11.1: beside the first and the last class and method
	p := program(9, 9)
	for _, c := range []struct {
		class, method int
		e             api.Errno
	}{
		{13, 0, api.OK}, {13, 10, api.OK}, {13, 11, api.ErrMissing}, {13, -1, api.ErrMissing}, {18, 0, api.OK}, {18, 1, api.OK}, {18, 2, api.ErrMissing},
		{19, 0, api.ErrMissing}, {12, 0, api.ErrMissing}, {0, 0, api.ErrMissing}, {0, 1, api.ErrMissing}, {2, 3, api.ErrMissing}, {3, 2, api.ErrMissing}, {-1, 0, api.ErrMissing}, {-1, -1, api.ErrMissing},
	} {
		if x, e := rules.At(p, c.class, c.method); e != c.e || (x == nil) != (c.e != api.OK) {
			t.Errorf("At(%d, %d): %v, %d; want %d", c.class, c.method, x != nil, e, c.e)
		}
	}
}

func TestAtZero(t *testing.T) { // P11.1, P2: no program is told ahead of no method
	for _, p := range []*link.Program{nil, {}, new(link.Program)} {
		for _, class := range ends() {
			for _, method := range ends() {
				if x, e := rules.At(p, class, method); x != nil || e != api.ErrZero {
					t.Errorf("At(%d, %d): %v, %d", class, method, x != nil, e)
				}
			}
		}
	}
}

// alone answers the place of a method of the class A, which stands beside main in a program of its own, with so many locals.
func alone(t *testing.T, flags int, name, desc string, locals int) *rules.Place {
	t.Helper()
	utf := func(s string) api.Const { return api.Const{Tag: api.CUtf8, Text: s} }
	c := api.Class{This: 1, Super: 3, Pool: []api.Const{{}, {Tag: api.CClass, A: 2}, utf("A"), {Tag: api.CClass, A: 4}, utf("Object"), utf("main"), utf("()V"), utf("Code"), utf(name), utf(desc)}}
	c.Methods = []api.Method{{Flags: api.Static, Name: 5, Desc: 6, Code: []byte{177}}, {Flags: flags, Name: 8, Desc: 9, Locals: locals, Code: []byte{177}}}
	p, e := link.Build([]api.Class{c})
	if e != api.OK {
		t.Fatalf("Build with %s%s: %d", name, desc, e)
	}
	x, e := rules.At(p, firstOwn, 1)
	if e != api.OK || x == nil {
		t.Fatalf("At %s%s: %d", name, desc, e)
	}
	return x
}

func TestFirst(t *testing.T) { // P11.1: this, the types of the descriptor, and KTop up to Locals, or as many as Locals
	all := "IJLA;[ILNone;[[J[LObject;[[[[LB;" // parameters of all kinds
	types := "I J LA; [I LNone; [[J [LObject; [[[[LB;"
	for _, c := range []struct{ name, desc, want string }{
		{"m", "()V", ""}, {"m", "()J", ""}, {"m", "(I)V", "I"}, {"m", "(JI)LA;", "J I"}, {"m", "(LA;)V", "LA;"}, {"m", "([[LNone;)[I", "[[LNone;"},
		{"m", "(" + all + ")V", types}, {"m", "(" + all + all + ")I", types + " " + types},
		{"m", "(" + strings.Repeat("J", api.MaxParams) + ")V", strings.Repeat("J ", api.MaxParams)},
		{"<init>", "()V", "this"}, {"<init>", "(" + all + ")V", "this " + types}, {"<init>", "(" + strings.Repeat("I", api.MaxParams) + ")V", "this " + strings.Repeat("I ", api.MaxParams)},
	} {
		for _, flags := range []int{0, api.Static} {
			want := api.Frame{Fresh: c.name == "<init>", Locals: typesOf(c.want)}
			if flags == 0 && !want.Fresh {
				want.Locals = append(typesOf("LA;"), want.Locals...)
			} else if flags == api.Static && want.Fresh {
				continue
			}
			for locals := range api.MaxSlots + 1 {
				w := want
				w.Locals = append(slices.Clone(want.Locals), make([]api.Type, api.MaxSlots)...)[:locals]
				if f := alone(t, flags, c.name, c.desc, locals).First(); !same(f, w) || len(f.Stack) != 0 {
					t.Errorf("First of %s%s (%d) with %d locals: %s; want %s", c.name, c.desc, flags, locals, show(f), show(w))
				}
			}
		}
	}
}

func TestFirstByHand(t *testing.T) { // P11.1: of some methods of the family, with 9 locals each
	for _, c := range []struct{ class, method, want string }{
		{"A", "main ()V", "T T T T T T T T T"},
		{"A", "<init> ()V", "!this T T T T T T T T"},
		{"A", "<init> (IJLA;)V", "!this I J LA; T T T T T"},
		{"B", "<init> (I)V", "!this I T T T T T T T"},
		{"A", "v (I)I", "LA; I T T T T T T T"},
		{"B", "v (I)I", "LB; I T T T T T T T"},
		{"A", "z (IJ)J", "I J T T T T T T T"},
		{"B", "own ([[J)[LA;", "LB; [[J T T T T T T T"},
		{"G", "run ()V", "LG; T T T T T T T T"},
	} {
		if f := (spot{c.class, c.method, 3}).place().First(); !same(f, frameOf(c.want)) {
			t.Errorf("First of %s %s: %s", c.class, c.method, show(f))
		}
	}
}

func TestFirstThenStep(t *testing.T) { // P11.1, P11.2: a constructor from its beginning to its end
	x := spot{"B", "<init> (I)V", 2}.place()
	f := x.First()
	for n, i := range []api.Instr{{Op: op("aload_0")}, {Op: op("invokespecial"), A: at("method A <init> ()V")}, {Op: op("aload_0")}, {Op: op("iload_1")}, {Op: op("putfield"), A: at("field B both I")}, {Op: op("return")}} {
		g, e := x.Step(i, f)
		if e != api.OK || g.Fresh != (n < 1) {
			t.Fatalf("%d: %d, %v", n, e, g.Fresh)
		}
		f = g
	}
	if !same(f, frameOf("LB; I T T T T T T T")) {
		t.Errorf("at the end: %s", show(f))
	}
	if _, e := x.Step(api.Instr{Op: op("return")}, x.First()); e != api.ErrType {
		t.Errorf("return at the beginning: %d", e)
	}
}

// unmade are places that no call made.
func unmade() []*rules.Place { return []*rules.Place{nil, {}, new(rules.Place)} }

func TestUnmade(t *testing.T) { // P11.4
	frames := []api.Frame{{}, frameOf("I J LA;|I I"), frameOf("!this|this"), frameOf("|I I I I I I I I I I I I")}
	for _, x := range unmade() {
		if f := x.First(); !zero(f) {
			t.Errorf("First: %s", show(f))
		}
		for _, n := range append(ends(), at("class A"), at("class [I")) {
			if c, e := x.Type(n); c != (api.Type{}) || e != api.ErrZero {
				t.Errorf("Type(%d): %v, %d", n, c, e)
			}
			for _, f := range frames {
				for _, o := range append(ends(), op("iadd"), op("pop"), op("new"), op("return")) {
					if g, e := x.Step(api.Instr{Op: o, A: n, At: n}, f); !zero(g) || e != api.ErrZero {
						t.Errorf("Step of %d %d: %s, %d", o, n, show(g), e)
					}
				}
			}
		}
		for _, f := range frames {
			for _, g := range frames {
				if x.Assign(f, g) {
					t.Errorf("Assign(%s, %s)", show(f), show(g))
				}
			}
		}
	}
}

func TestType(t *testing.T) { // P11.3: a class of the program, an array of one or of numbers, and what is neither
	for _, s := range []spot{usual, {"C", "u ()I", 0}} {
		x := s.place()
		for _, c := range []struct{ label, want string }{
			{"class A", "LA;"}, {"class again A", "LA;"}, {"class C", "LC;"}, {"class G", "LG;"}, {"class Object", "LObject;"}, {"class Sys", "LSys;"}, {"class Throwable", "LThrowable;"}, {"class DivError", "LDivError;"},
			{"class [I", "[I"}, {"class [[[[I", "[[[[I"}, {"class [LA;", "[LA;"}, {"class [[[[LA;", "[[[[LA;"}, {"class [J", "[J"}, {"class [LG;", "[LG;"}, {"class [LObject;", "[LObject;"}, {"class [LSys;", "[LSys;"}, {"class [[LDivError;", "[[LDivError;"},
			{"class None", ""}, {"class [LNone;", ""}, {"class [[LNone;", ""}, {"class [[[[LNone;", ""}, {"class [Lnone;", ""}, {"class [LAA;", ""}, {"class LA;", ""}, {"class ", ""}, {"class ()V", ""}, {"class [V", ""}, {"class A.B", ""}, {"class [", ""}, {"class I", ""}, {"class [[[[[I", ""},
			{"none", ""}, {"int", ""}, {"long", ""}, {"text A", ""}, {"text [I", ""}, {"name f I", ""}, {"field A f I", ""}, {"method A v ()V", ""},
		} {
			var want api.Type
			e := api.ErrMissing
			if c.want != "" {
				want, e = typesOf(c.want)[0], api.OK
			}
			if got, err := x.Type(at(c.label)); got != want || err != e {
				t.Errorf("Type of %q: %v, %d; want %v, %d", c.label, got, err, want, e)
			}
		}
	}
}

func TestTypeOfAll(t *testing.T) { // P11.3, P6: of each place of the pool, and of what is none
	x := usual.place()
	numbers := ends()
	for n := -3; n < len(constants.pool)+3; n++ {
		numbers = append(numbers, n)
	}
	numbers = append(numbers, len(constants.pool)+1<<8, len(constants.pool)+1<<16, at("class A")+1<<16, at("class A")+1<<32, -at("class A"))
	for _, n := range numbers {
		h := &hand{a: n}
		h.need("type")
		want := h.typeAt
		if got, e := x.Type(n); got != want || e != h.e {
			t.Errorf("Type(%d): %v, %d; want %v, %d", n, got, e, want, h.e)
		}
	}
}

func TestTypeByClass(t *testing.T) { // P11.3: the pool is that of the place's class
	utf := func(s string) api.Const { return api.Const{Tag: api.CUtf8, Text: s} }
	var l []api.Class
	for n := range 3 {
		c := api.Class{This: 1, Super: 3, Pool: []api.Const{{}, {Tag: api.CClass, A: 2}, utf("A" + strconv.Itoa(n)), {Tag: api.CClass, A: 4}, utf("Object"), utf("main"), utf("()V"), utf("Code"), utf("A" + strconv.Itoa(2-n)), {Tag: api.CClass, A: 8}}}
		c.Methods = []api.Method{{Flags: api.Static, Name: 5, Desc: 6, Code: []byte{177}}}
		l = append(l, c)
	}
	p, e := link.Build(l)
	if e != api.OK {
		t.Fatalf("Build: %d", e)
	}
	for n := range 3 {
		x, _ := rules.At(p, firstOwn+n, 0)
		for place, name := range map[int]string{1: "A" + strconv.Itoa(n), 9: "A" + strconv.Itoa(2-n), 3: "Object"} {
			if got, e := x.Type(place); e != api.OK || got != (api.Type{K: api.KRef, Name: name}) {
				t.Errorf("of the class %d: Type(%d): %v, %d", n, place, got, e)
			}
		}
	}
}

func TestTypeOfMissing(t *testing.T) { // P11.2, P11.3: a text is a type where the class that it names is in the program, before the place's class or behind it; so is what arrays are of
	utf := func(s string) api.Const { return api.Const{Tag: api.CUtf8, Text: s} }
	class := func(name, text string) api.Class { // at 10 it has the class with that text
		c := api.Class{This: 2, Super: 4, Pool: []api.Const{{}, utf(name), {Tag: api.CClass, A: 1}, utf("Object"), {Tag: api.CClass, A: 3}, utf("main"), utf("()V"), utf("Code"), {Tag: api.CInt}, utf(text), {Tag: api.CClass, A: 9}}}
		c.Methods = []api.Method{{Flags: api.Static, Name: 5, Desc: 6, Stack: 1, Code: []byte{177}}}
		return c
	}
	steps := []struct{ name, frame string }{{"anewarray", "|I"}, {"checkcast", "|N"}, {"instanceof", "|N"}}
	for text, dims := range map[string]int{"None": 0, "[LNone;": 1, "[[LNone;": 2, "[[[LNone;": 3} {
		for _, c := range []struct {
			names string // of the classes, in order
			own   int    // which of them is asked
			e     api.Errno
		}{{"A", 0, api.ErrMissing}, {"A Non none None1 LNone", 0, api.ErrMissing}, {"A None", 0, api.OK}, {"None A", 1, api.OK}, {"A B None", 1, api.OK}, {"None", 0, api.OK}} {
			var l []api.Class
			for _, name := range strings.Fields(c.names) {
				l = append(l, class(name, text))
			}
			p, e := link.Build(l)
			if e != api.OK {
				t.Fatalf("Build of %s: %d", c.names, e)
			}
			x, _ := rules.At(p, firstOwn+c.own, 0)
			var want api.Type
			if c.e == api.OK {
				want = typesOf(strings.Repeat("[", dims) + "LNone;")[0]
			}
			if got, e := x.Type(10); got != want || e != c.e {
				t.Errorf("of %s: Type of %s: %v, %d", c.names, text, got, e)
			}
			for _, s := range steps {
				f, e := x.Step(api.Instr{Op: op(s.name), A: 10}, frameOf(s.frame))
				if e != c.e || e != api.OK && !zero(f) {
					t.Errorf("of %s: %s of %s: %s, %d", c.names, s.name, text, show(f), e)
				}
			}
		}
	}
}
