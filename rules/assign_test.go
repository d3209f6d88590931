package rules_test

import (
	"math/rand"
	"slices"
	"testing"

	"understudy/api"
)

// palette are types of all kinds; the last ones are of no kind that a program has.
func palette() []api.Type {
	l := typesOf("T I J N LA; LB; LC; LE; LF; LObject; LThrowable; LDivError; LThread; LSys; LNone; [I [J [[I [[J [LA; [LB; [LObject; [[LA; [[LB; [[LObject; [[[[LA; [[[[I [LNone; @0 @3 @6 @9 @18 @33 @1 this V")
	return append(l, api.Type{K: -1}, api.Type{K: 9}, api.Type{K: 1 << 32}, api.Type{K: api.KRef})
}

func TestAssignTypes(t *testing.T) { // P11.3: each kind of type to each, in locals and on the stack
	x := usual.place()
	for _, a := range palette() {
		for _, b := range palette() {
			want := assignByHand(a, b)
			one, other := []api.Type{a}, []api.Type{b}
			if got := x.Assign(api.Frame{Locals: one}, api.Frame{Locals: other}); got != want {
				t.Errorf("Assign of locals %v to %v: %v", a, b, got)
			}
			if got := x.Assign(api.Frame{Stack: one}, api.Frame{Stack: other}); got != want {
				t.Errorf("Assign of the stack %v to %v: %v", a, b, got)
			}
		}
	}
}

func TestAssign(t *testing.T) { // P11.3: as many, each of them, Fresh
	x := usual.place()
	for _, c := range []struct {
		a, b string
		want bool
	}{
		{"", "", true}, {"!", "!", true}, {"", "!", true}, {"!", "", false},
		{"I", "", false}, {"", "I", false}, {"T", "", false}, {"", "T", false}, {"I I", "I", false}, {"I", "I I", false}, {"I", "I T", false}, {"I T", "I", false},
		{"|I", "|", false}, {"|", "|I", false}, {"|I I", "|I", false}, {"|I", "|I I", false}, {"|I", "I|", false}, {"I|", "|I", false}, {"I|I", "I|", false}, {"I|I", "|I", false},
		{"I J|LA; N", "I J|LA; N", true}, {"LB; [LB;|LC; N", "LA; [LA;|LB; LF;", true}, {"LB; [LB;|LC; N", "LA; [LA;|LB; I", false}, {"LB; [LB;|LC; N", "LC; [LA;|LB; LF;", false}, {"LB; [LB;|LC; N", "LA; [LC;|LB; LF;", false}, {"LB; [LB;|LC; N", "LA; [LA;|LE; LF;", false},
		{"I J LA;|I", "T T T|T", true}, {"T T T|T", "I J LA;|I", false}, {"I T|", "I I|", false}, {"T I|", "I I|", false}, {"I I|", "T I|", true},
		{"|@3", "|@3", true}, {"|@3", "|@6", false}, {"|@3", "|LB;", false}, {"|LB;", "|@3", false}, {"!this|", "!this|", true}, {"this|", "this|", true}, {"!this|", "this|", false}, {"this|", "!this|", true}, {"!this|", "!T|", true}, {"!this|", "T|", false}, {"!this|", "!LA;|", false}, {"LA;|", "!LA;|", true},
	} {
		if got := x.Assign(frameOf(c.a), frameOf(c.b)); got != c.want {
			t.Errorf("Assign of %q to %q: %v", c.a, c.b, got)
		}
	}
}

func TestAssignEmpty(t *testing.T) { // P3: nil and empty lists are the same
	x := usual.place()
	empty := api.Frame{Locals: []api.Type{}, Stack: []api.Type{}}
	for _, f := range []api.Frame{{}, empty} {
		for _, g := range []api.Frame{{}, empty} {
			if !x.Assign(f, g) {
				t.Errorf("Assign(%v, %v)", f, g)
			}
			if got, e := x.Step(api.Instr{Op: op("iconst_0")}, f); e != api.OK || !same(got, frameOf("|I")) {
				t.Errorf("Step: %s, %d", show(got), e)
			}
		}
	}
}

func TestAssignByChance(t *testing.T) { // P11.3, P4: frames of all sorts, which stay as they were
	chance := rand.New(rand.NewSource(11))
	types := palette()
	x := spot{"B", "<init> (I)V", 0}.place()
	right := 0
	for range 30000 {
		var a, b api.Frame
		for range chance.Intn(4) {
			a.Locals = append(a.Locals, types[chance.Intn(len(types))])
		}
		for range chance.Intn(4) {
			a.Stack = append(a.Stack, types[chance.Intn(len(types))])
		}
		b = clone(a)
		for _, l := range [][]api.Type{b.Locals, b.Stack} {
			for i := range l {
				if chance.Intn(4) == 0 {
					l[i] = types[chance.Intn(len(types))]
				}
			}
		}
		if chance.Intn(10) == 0 {
			b.Stack = b.Stack[:len(b.Stack)/2]
		}
		a.Fresh, b.Fresh = chance.Intn(4) == 0, chance.Intn(2) == 0
		want := slices.EqualFunc(a.Locals, b.Locals, assignByHand) && slices.EqualFunc(a.Stack, b.Stack, assignByHand) && (b.Fresh || !a.Fresh)
		before, other := clone(a), clone(b)
		if x.Assign(a, b) != want || !same(a, before) || !same(b, other) {
			t.Errorf("Assign(%s, %s): %v", show(a), show(b), !want)
		}
		if want {
			right++
		}
	}
	if right < 3000 || right > 27000 {
		t.Errorf("%d of them are right", right)
	}
}

func TestAssignGreat(t *testing.T) { // P1: frames with more than any method has
	x := usual.place()
	long := make([]api.Type, 1<<16)
	for i := range long {
		long[i] = api.Type{K: api.KRef, Name: "C"}
	}
	other := slices.Repeat(typesOf("LA;"), 1<<16)
	if !x.Assign(api.Frame{Locals: long, Stack: long}, api.Frame{Locals: other, Stack: other}) || x.Assign(api.Frame{Stack: long}, api.Frame{Stack: other[1:]}) {
		t.Error("Assign")
	}
	other[len(other)-1].Name = "E"
	if x.Assign(api.Frame{Stack: long}, api.Frame{Stack: other}) {
		t.Error("Assign of the last one")
	}
}
