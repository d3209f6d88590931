package rules_test

import (
	"maps"
	"math/rand"
	"slices"
	"strings"
	"testing"

	"understudy/api"
	"understudy/ops"
	"understudy/rules"
)

// shown ends a test that has told enough.
func shown(t *testing.T, wrong *int) {
	t.Helper()
	if *wrong++; *wrong > 20 {
		t.FailNow()
	}
}

// compares asks that Step answers what the hand does.
func compares(t *testing.T, x *rules.Place, s spot, i api.Instr, f api.Frame, wrong *int) api.Errno {
	t.Helper()
	want, e := stepByHand(s, i, f)
	if got, err := x.Step(i, f); err != e || !same(got, want) {
		t.Errorf("%v: %s %v of %s: %s, %d; want %s, %d", s, ops.Name(i.Op), i, show(f), show(got), err, show(want), e)
		shown(t, wrong)
	}
	return e
}

// names are the names of all codes, always in the same order.
func names() []string { return slices.Sorted(maps.Keys(codes)) }

// usualTypes are types of all kinds, but none that a program has not.
func usualTypes() []api.Type {
	return typesOf("T I J N LA; LB; LC; LE; LF; LObject; LThrowable; LNone; [I [J [[I [LA; [LB; [[LA; [LObject; [[LObject; [[[[J @0 @3 @18 @33 this V")
}

// numbersOf are numbers that A may be for the instruction: all places of constants where it is one.
func numbersOf(name string) []int {
	shape, _ := ops.Shape(op(name))
	switch {
	case shape == 'c' || name == "ldc":
		var l []int
		for n := -1; n < len(constants.pool)+2; n++ {
			l = append(l, n)
		}
		return l
	case shape == 'u' || shape == 'i':
		return []int{-1, 0, 1, 2, 3, 9, 10, 11, 12}
	}
	return []int{0}
}

func TestAllStacks(t *testing.T) { // P11.2: each instruction with each number, of each type alone, and of each two
	types, wrong := usualTypes(), 0
	s := spot{"B", "a ()[[LA;", 3}
	x := s.place()
	for _, name := range names() {
		numbers := numbersOf(name)
		for _, a := range numbers {
			i := api.Instr{Op: op(name), A: a, At: 3}
			compares(t, x, s, i, api.Frame{Locals: typesOf("I J N")}, &wrong)
			for _, one := range types {
				compares(t, x, s, i, api.Frame{Locals: []api.Type{one, one}, Stack: []api.Type{one}}, &wrong)
				if len(numbers) > 20 {
					continue
				}
				for _, two := range types {
					compares(t, x, s, i, api.Frame{Locals: []api.Type{one, two}, Stack: []api.Type{one, two}, Fresh: one.K == api.KThis}, &wrong)
				}
			}
		}
	}
}

func TestAllThrees(t *testing.T) { // P11.2: what takes three, of each three
	types, wrong := usualTypes(), 0
	x := usual.place()
	for _, name := range strings.Fields("iastore lastore aastore dup_x1") {
		for _, a := range types {
			for _, b := range types {
				for _, c := range types {
					compares(t, x, usual, api.Instr{Op: op(name)}, api.Frame{Stack: []api.Type{a, b, c}}, &wrong)
				}
			}
		}
	}
}

func TestAllConstants(t *testing.T) { // P11.2: what asks for a constant, at each place of the pool, with each two types
	types, wrong := usualTypes(), 0
	s := spot{"B", "<init> (I)V", 3}
	x := s.place()
	chance := rand.New(rand.NewSource(1))
	for _, name := range names() {
		numbers := numbersOf(name)
		if len(numbers) < 20 {
			continue
		}
		for _, a := range numbers {
			for _, two := range types {
				one := types[chance.Intn(len(types))]
				compares(t, x, s, api.Instr{Op: op(name), A: a, At: 18}, api.Frame{Locals: []api.Type{one, two}, Stack: []api.Type{one, two}, Fresh: chance.Intn(2) == 0}, &wrong)
			}
		}
	}
}

// likely answers a frame that an instruction may take: what it takes stands on the stack, now and then something else.
func likely(chance *rand.Rand, types []api.Type, i api.Instr) api.Frame {
	pick := func() api.Type { return types[chance.Intn(len(types))] }
	var f api.Frame
	for range chance.Intn(5) {
		f.Locals = append(f.Locals, pick())
	}
	for range chance.Intn(4) {
		f.Stack = append(f.Stack, pick())
	}
	var taken []api.Type
	h := &hand{a: i.A}
	if s, isMethod := h.textOf("method"); isMethod && strings.Contains(s, "(") {
		w := strings.Fields(s)
		taken, _ = descOf(w[2])
		if w[1] == "<init>" {
			f.Stack = append(f.Stack, typesOf("@0 @3 @6 @9 @15 @18 this this")[chance.Intn(8)])
		} else if t, is := typeByHand(w[0]); is && ops.Name(i.Op) != "invokestatic" {
			f.Stack = append(f.Stack, t)
		}
	} else if s, isField := h.textOf("field"); isField {
		w := strings.Fields(s)
		if t, is := typeByHand(w[0]); is && chance.Intn(4) > 0 {
			f.Stack = append(f.Stack, t)
		}
		if n := strings.Fields(s)[2]; !strings.HasPrefix(n, "(") && chance.Intn(2) == 0 {
			taken = typesOf(n)
		}
	} else {
		for range chance.Intn(4) {
			taken = append(taken, pick())
		}
	}
	f.Stack = append(f.Stack, taken...)
	if len(f.Stack) > 0 && chance.Intn(4) == 0 {
		f.Stack[chance.Intn(len(f.Stack))] = pick()
	}
	f.Fresh = chance.Intn(3) == 0
	return f
}

func TestByChance(t *testing.T) { // P11.2, P4: instructions and frames of all sorts, which stay as they were
	chance := rand.New(rand.NewSource(110))
	types, wrong := usualTypes(), 0
	var often []string
	for _, name := range names() {
		often = append(often, name)
		if len(numbersOf(name)) > 20 { // there is more to them
			often = append(often, name, name, name, name, name)
		}
	}
	count := map[api.Errno]int{}
	for _, c := range family() {
		for _, m := range c.methods {
			for stack := range 10 {
				s := spot{c.name, strings.Trim(m, "+"), stack}
				x := s.place()
				for range 250 {
					name := often[chance.Intn(len(often))]
					numbers := numbersOf(name)
					i := api.Instr{Op: op(name), A: numbers[chance.Intn(len(numbers))], B: chance.Intn(9), At: 3 * chance.Intn(12), Size: chance.Intn(9)}
					f := likely(chance, types, i)
					before := clone(f)
					count[compares(t, x, s, i, f, &wrong)]++
					if !same(f, before) {
						t.Errorf("Step of %v changed %s: %s", i, show(before), show(f))
					}
				}
			}
		}
	}
	for _, e := range []api.Errno{api.OK, api.ErrMissing, api.ErrType, api.ErrDepth, api.ErrLocal} {
		if count[e] < 500 {
			t.Errorf("%d answers %d", count[e], e)
		}
	}
}

func TestAnything(t *testing.T) { // P1: numbers and types of all sorts
	chance := rand.New(rand.NewSource(1100))
	numbers := ends()
	pick := func() int {
		if chance.Intn(2) == 0 {
			return chance.Intn(20) - 3
		}
		return numbers[chance.Intn(len(numbers))]
	}
	random := func() []api.Type {
		var l []api.Type
		for range chance.Intn(6) {
			l = append(l, api.Type{K: pick(), Name: []string{"", "A", "Object", "None", "\xFF"}[chance.Intn(5)], Dims: pick(), Elem: pick(), At: pick()})
		}
		return l
	}
	places := append(unmade(), usual.place(), spot{"B", "<init> (I)V", 3}.place(), spot{"C", "u ()I", 0}.place())
	for range 200000 {
		x := places[chance.Intn(len(places))]
		f := api.Frame{Locals: random(), Stack: random(), Fresh: chance.Intn(2) == 0}
		i := api.Instr{At: pick(), Op: chance.Intn(200), A: chance.Intn(len(constants.pool)), B: pick(), Size: pick()}
		if chance.Intn(4) == 0 {
			i.Op, i.A = pick(), pick()
		}
		before := clone(f)
		g, e := x.Step(i, f)
		if !same(f, before) || e != api.OK && !zero(g) {
			t.Errorf("Step of %v: %s, %d; %s was %s", i, show(g), e, show(f), show(before))
		}
		x.Assign(f, g)
		x.Assign(g, f)
	}
}

// spoilt writes over all of the list, as far as it reaches.
func spoilt(l []api.Type) {
	l = l[:cap(l)]
	for i := range l {
		l[i] = api.Type{K: -1, Name: "spoilt", Dims: -2, Elem: -3, At: -4}
	}
}

// spare answers a list with the same types, and room behind.
func spare(l []api.Type) []api.Type {
	return append(make([]api.Type, 0, len(l)+9), l...)
}

func TestAnswersAreNew(t *testing.T) { // P4: an answer shares nothing with what was handed in, and its lists nothing with one another
	x := spot{"B", "<init> (I)V", 9}.place()
	for _, c := range []struct{ instr, frame string }{
		{"nop", "I J|I J"}, {"goto", "I|"}, {"nop", "|I"}, {"pop", "I J N|I J"}, {"sipush", "I J N|I J"}, {"dup", "I|J"}, {"swap", "I|J I"}, {"iinc 0", "I J|J"}, {"istore 1", "I J|N I"}, {"aload 0", "this|"}, {"invokespecial:method A <init> ()V", "!this I|this this"}, {"invokespecial:method A <init> ()V", "!this @0|@0 @0"}, {"new @3:class A", "@3 I|I"}, {"invokestatic:method A z (IJ)J", "I|N I J"}, {"return", "I|J"}, {"iadd", "|I I"},
	} {
		i, f := instrOf(c.instr), frameOf(c.frame)
		f.Locals, f.Stack = spare(f.Locals), spare(f.Stack)
		before := clone(f)
		g, e := x.Step(i, f)
		if e != api.OK {
			t.Fatalf("%s: %d", c.instr, e)
		}
		want := clone(g)
		spoilt(f.Locals)
		spoilt(f.Stack)
		if !same(g, want) {
			t.Errorf("%s keeps what was handed in: %s", c.instr, show(g))
		}
		f = clone(before)
		f.Locals, f.Stack = spare(f.Locals), spare(f.Stack)
		g, _ = x.Step(i, f)
		spoilt(g.Locals)
		if !slices.Equal(g.Stack, want.Stack) {
			t.Errorf("%s: locals and stack share", c.instr)
		}
		spoilt(g.Stack)
		if !same(f, before) {
			t.Errorf("%s hands out what was handed in: %s", c.instr, show(f))
		}
		for _, l := range [][]api.Type{f.Locals[:cap(f.Locals)][len(f.Locals):], f.Stack[:cap(f.Stack)][len(f.Stack):]} {
			for _, c := range l {
				if c != (api.Type{}) {
					t.Errorf("written behind what was handed in: %v", c)
				}
			}
		}
		if g, e = x.Step(i, before); e != api.OK || !same(g, want) {
			t.Errorf("%s again: %s, %d", c.instr, show(g), e)
		}
	}
}

func TestSharedArguments(t *testing.T) { // P4: locals and stack of one frame may be one list
	x := usual.place()
	l := spare(typesOf("N I I"))
	f := api.Frame{Locals: l, Stack: l}
	gives(t, x, instrOf("istore 0"), f, frameOf("I I I|N I"), api.OK)
	gives(t, x, instrOf("iaload"), f, api.Frame{}, api.ErrType)
	gives(t, x, instrOf("sipush"), f, frameOf("N I I|N I I I"), api.OK)
}

func TestFirstIsNew(t *testing.T) { // P4: what First answers may change, and nothing else changes by that
	for _, s := range []spot{usual, {"A", "<init> (IJLA;)V", 3}, {"B", "own ([[J)[LA;", 3}} {
		x := s.place()
		f, g := x.First(), x.First()
		want := clone(f)
		spoilt(f.Locals)
		spoilt(f.Stack)
		if !same(g, want) || !same(x.First(), want) {
			t.Errorf("First of %v: %s; want %s", s, show(x.First()), show(want))
		}
		h, _ := x.Step(instrOf("aconst_null"), g)
		spoilt(h.Locals)
		if !same(g, want) || !same(x.First(), want) {
			t.Errorf("First of %v behind Step: %s", s, show(g))
		}
	}
}

func TestSameAgain(t *testing.T) { // P5: what was asked ahead does not count, nor what other places are asked
	l := []spot{usual, {"A", "<init> (IJLA;)V", 3}, {"B", "own ([[J)[LA;", 3}, {"C", "u ()I", 1}}
	asked := []struct{ instr, frame string }{{"ireturn", "|I"}, {"return", "this|"}, {"areturn", "|[LA;"}, {"invokespecial:method Object <init> ()V", "!this|this"}, {"invokespecial:method B <init> ()V", "!this|this"}, {"new @4:class A", "@4|I"}, {"iadd", "|I J"}, {"dup", "|I J"}, {"aload 4", "|"}}
	type answer struct {
		f api.Frame
		e api.Errno
	}
	var want []answer
	for turn := range 3 {
		var got []answer
		for _, c := range asked {
			for _, s := range l {
				f, e := s.place().Step(instrOf(c.instr), frameOf(c.frame))
				got = append(got, answer{f, e})
			}
		}
		if turn == 0 {
			want = got
		}
		if !slices.EqualFunc(got, want, func(a, b answer) bool { return same(a.f, b.f) && a.e == b.e }) {
			t.Errorf("turn %d: %v; want %v", turn, got, want)
		}
	}
}

func TestCopied(t *testing.T) { // P5: a place that is copied is as the first one
	x := spot{"B", "<init> (I)V", 9}.place()
	y := *x
	for _, c := range []struct{ instr, frame string }{{"return", "|"}, {"invokespecial:method A <init> ()V", "!this|this"}, {"invokespecial:method A <init> ()V", "|@0"}} {
		f, e := x.Step(instrOf(c.instr), frameOf(c.frame))
		if g, err := y.Step(instrOf(c.instr), frameOf(c.frame)); err != e || !same(f, g) {
			t.Errorf("%s: %s, %d; want %s, %d", c.instr, show(g), err, show(f), e)
		}
	}
}

func TestGreat(t *testing.T) { // P1: frames with more than any method has
	x := usual.place()
	l := slices.Repeat(typesOf("I this @0 T"), 1<<14)
	gives(t, x, instrOf("invokespecial:method A <init> ()V"), api.Frame{Locals: l, Stack: l[:len(l)-1]}, api.Frame{Locals: slices.Repeat(typesOf("I this LA; T"), 1<<14), Stack: slices.Repeat(typesOf("I this LA; T"), 1<<14)[:len(l)-2]}, api.OK)
	gives(t, x, instrOf("sipush"), api.Frame{Stack: l}, api.Frame{}, api.ErrDepth)
	gives(t, x, instrOf("pop"), api.Frame{Stack: l}, api.Frame{Stack: l[:len(l)-1]}, api.OK)
}
