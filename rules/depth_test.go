package rules_test

import (
	"slices"
	"testing"

	"understudy/api"
)

// depths are instructions, what they take, and what they leave, of which all is pushed.
var depths = []struct{ instr, takes, leaves string }{
	{"nop", "", ""}, {"goto", "", ""}, {"aconst_null", "", "N"}, {"sipush", "", "I"}, {"iconst_3", "", "I"}, {"bipush", "", "I"}, {"lconst_0", "", "J"}, {"lconst_1", "", "J"}, {"ldc:int", "", "I"}, {"ldc2_w:long", "", "J"},
	{"iload 0", "", "I"}, {"lload 1", "", "J"}, {"aload 2", "", "N"}, {"iload_0", "", "I"}, {"istore 0", "I", ""}, {"lstore 0", "J", ""}, {"astore 0", "N", ""}, {"iinc 0", "", ""},
	{"iaload", "[I I", "I"}, {"laload", "[J I", "J"}, {"aaload", "[LA; I", "LA;"}, {"aaload", "N I", "N"}, {"iastore", "[I I I", ""}, {"lastore", "[J I J", ""}, {"aastore", "[LA; I N", ""},
	{"pop", "T", ""}, {"dup", "T", "T T"}, {"dup_x1", "T I", "I T I"}, {"swap", "T I", "I T"},
	{"iadd", "I I", "I"}, {"ladd", "J J", "J"}, {"ineg", "I", "I"}, {"lneg", "J", "J"}, {"ishl", "I I", "I"}, {"lshl", "J I", "J"}, {"i2l", "I", "J"}, {"l2i", "J", "I"}, {"lcmp", "J J", "I"},
	{"ifeq", "I", ""}, {"if_icmpeq", "I I", ""}, {"if_acmpeq", "N N", ""}, {"ifnull", "N", ""}, {"ireturn", "I", ""}, {"athrow", "N", ""}, {"monitorenter", "N", ""}, {"monitorexit", "N", ""},
	{"getstatic:field A s I", "", "I"}, {"putstatic:field A s I", "I", ""}, {"getfield:field A f I", "N", "I"}, {"putfield:field A f I", "N I", ""},
	{"invokestatic:method A y ()V", "", ""}, {"invokestatic:method Sys read ()I", "", "I"}, {"invokestatic:method A z (IJ)J", "I J", "J"}, {"invokevirtual:method A v ()V", "N", ""}, {"invokevirtual:method A v (I)I", "N I", "I"}, {"invokevirtual:method A l ()J", "N", "J"}, {"invokevirtual:method A w (JLA;[I)LB;", "N J N N", "LB;"},
	{"invokespecial:method A <init> ()V", "@0", ""}, {"invokespecial:method A <init> (IJLA;)V", "@0 I J N", ""}, {"new @4:class A", "", "@4"}, {"newarray 10", "I", "[I"}, {"anewarray:class A", "I", "[LA;"}, {"arraylength", "N", "I"}, {"checkcast:class A", "N", "LA;"}, {"instanceof:class A", "N", "I"},
}

func TestDepth(t *testing.T) { // P11.2: each push is looked at by itself: stacks on which as many stand as may, fewer, and more
	locals := typesOf("I J N")
	for _, c := range depths {
		i, takes, leaves := instrOf(c.instr), typesOf(c.takes), typesOf(c.leaves)
		for most := range 8 {
			s := spot{"C", "u ()I", most}
			x := s.place()
			for under := range 11 { // how many stand below what is taken
				below := slices.Repeat(typesOf("J"), under)
				f := api.Frame{Locals: locals, Stack: slices.Concat(below, takes)}
				want, e := api.Frame{Locals: locals, Stack: slices.Concat(below, leaves)}, api.OK
				if len(leaves) > 0 && under+len(leaves) > most { // what is not pushed on is not counted
					want, e = api.Frame{}, api.ErrDepth
				}
				if i.Op == op("istore") || i.Op == op("lstore") || i.Op == op("astore") {
					want.Locals = append(slices.Clone(takes), locals[1:]...)
				}
				gives(t, x, i, f, want, e)
				if g, err := stepByHand(s, i, f); err != e || !same(g, want) {
					t.Errorf("by hand %s of %s: %s, %d", c.instr, show(f), show(g), err)
				}
			}
		}
	}
}

func TestTooLow(t *testing.T) { // P11.2: too little on the stack, by one and by more; and too little is told where it shows
	x := spot{"C", "u ()I", 9}.place()
	locals := typesOf("I J N")
	for _, c := range depths {
		i, takes := instrOf(c.instr), typesOf(c.takes)
		for missing := 1; missing <= len(takes); missing++ {
			gives(t, x, i, api.Frame{Locals: locals, Stack: takes[missing:]}, api.Frame{}, api.ErrDepth)
		}
	}
}

func TestDepthMost(t *testing.T) { // P11.2, the limit MaxSlots: at it all is as below it
	x := spot{"A", "main ()V", api.MaxSlots}.place()
	for under := range api.MaxSlots + 3 {
		f := api.Frame{Stack: slices.Repeat(typesOf("I"), under)}
		want, e := api.Frame{Stack: slices.Repeat(typesOf("I"), under+1)}, api.OK
		if under >= api.MaxSlots {
			want, e = api.Frame{}, api.ErrDepth
		}
		gives(t, x, api.Instr{Op: op("sipush")}, f, want, e)
	}
	none := spot{"A", "main ()V", 0}.place()
	gives(t, none, api.Instr{Op: op("sipush")}, api.Frame{}, api.Frame{}, api.ErrDepth)
	gives(t, none, api.Instr{Op: op("return")}, api.Frame{}, api.Frame{}, api.OK)
	gives(t, none, api.Instr{Op: op("pop")}, frameOf("|I I I"), frameOf("|I I"), api.OK)
}

func TestLocalsAsked(t *testing.T) { // P11.2: a local below the frame's own number of them, whatever the method's is
	x := usual.place() // of 9 locals
	forms := []struct {
		name   string
		local  string
		stack  string
		stored bool
	}{{"iload", "I", "", false}, {"lload", "J", "", false}, {"aload", "N", "", false}, {"istore", "I", "I", true}, {"lstore", "J", "J", true}, {"astore", "N", "N", true}, {"iinc", "I", "", false}}
	for _, c := range forms {
		for _, many := range []int{0, 1, 2, 8, 9, 10, 64, 65, 200, 300, 1 << 16} {
			f := api.Frame{Locals: slices.Repeat(typesOf(c.local), many), Stack: typesOf(c.stack)}
			for _, n := range append(ends(), many, many-1, many+1, many/2) {
				_, e := x.Step(api.Instr{Op: op(c.name), A: n}, f)
				if want := map[bool]api.Errno{true: api.OK, false: api.ErrLocal}[n >= 0 && n < many]; e != want {
					t.Errorf("%s %d of %d locals: %d; want %d", c.name, n, many, e, want)
				}
			}
			if many == 0 {
				continue
			}
			for _, n := range []int{0, many / 2, many - 1} { // the one that is asked, and no other
				g := clone(f)
				for i := range g.Locals {
					g.Locals[i] = api.Type{}
				}
				g.Locals[n] = f.Locals[n]
				want := clone(g)
				switch {
				case c.stored:
					g.Locals[n] = api.Type{}
					want.Stack = nil
				case c.name != "iinc":
					want.Stack = typesOf(c.local)
				}
				gives(t, x, api.Instr{Op: op(c.name), A: n}, g, want, api.OK)
			}
		}
	}
}

func TestOrder(t *testing.T) { // P11.2, P2: of several refusals of one instruction, which one is told
	full := "I J I J" // as much as may be
	holds(t, spot{"A", "main ()V", 4}, []example{
		{"ldc:none", "|" + full, "missing"}, {"ldc2_w:int", "|" + full, "missing"}, {"ldc:int", "|" + full, "depth"},
		{"iload 0", "J|" + full, "type"}, {"iload 1", "J|" + full, "local"}, {"iload 0", "I|" + full, "depth"}, {"aload 0", "T|" + full, "type"}, {"aload 9", "T|" + full, "local"},
		{"istore 9", "|", "depth"}, {"istore 9", "|J", "type"}, {"istore 9", "|I", "local"}, {"lstore 9", "|", "depth"}, {"lstore 9", "|I", "type"}, {"lstore 9", "|J", "local"}, {"astore 9", "|", "depth"}, {"astore 9", "|I", "type"}, {"astore 9", "|N", "local"},
		{"iaload", "|J", "type"}, {"iaload", "|J J", "type"}, {"iaload", "|I", "depth"}, {"aaload", "|I", "depth"}, {"aaload", "|N", "type"}, {"iastore", "|I J", "type"}, {"iastore", "|J I", "type"}, {"lastore", "|J", "depth"}, {"lastore", "|J J", "type"}, {"aastore", "|I", "type"}, {"aastore", "|J N", "type"}, {"aastore", "|I N", "depth"},
		{"iaload", "|I J I J [I I", "depth"}, {"iaload", "|I J I J [J I", "type"}, {"arraylength", "|I J I J N", "depth"}, {"arraylength", "|I J I J J", "type"}, {"i2l", "|I J I J J", "type"}, {"i2l", "|I J I J I", "depth"},
		{"newarray 9", "|", "type"}, {"newarray 9", "|" + full + " I", "type"}, {"newarray 10", "|" + full + " J", "type"}, {"newarray 10", "|" + full + " I", "depth"},
		{"anewarray:class None", "|", "missing"}, {"anewarray:class None", "|J", "missing"}, {"anewarray:class [LNone;", "|" + full + " I", "missing"}, {"anewarray:class [LNone;", "|" + full + " J", "missing"}, {"anewarray:class [[[[LNone;", "|", "missing"}, {"anewarray:class [[[[I", "|", "depth"}, {"anewarray:class [[[[I", "|J", "type"}, {"anewarray:class A", "|" + full + " I", "depth"}, {"anewarray:class A", "|" + full + " J", "type"},
		{"getstatic:field A f I", "|" + full, "missing"}, {"getstatic:field A s I", "|" + full, "depth"}, {"putstatic:field A f I", "|", "missing"}, {"putstatic:field A f I", "|J", "missing"}, {"getfield:field A s I", "|", "missing"}, {"getfield:field A s I", "|" + full + " I", "missing"}, {"getfield:field A f I", "|" + full + " I", "type"}, {"getfield:field A f I", "|" + full + " N", "depth"}, {"putfield:field A s I", "|", "missing"}, {"putfield:field A s I", "|J", "missing"}, {"putfield:field A f I", "|J", "type"}, {"putfield:field A f I", "|I", "depth"},
		{"invokestatic:method A v ()V", "|", "missing"}, {"invokestatic:method A z (IJ)J", "|J", "depth"}, {"invokestatic:method A z (IJ)J", "|I", "type"}, {"invokestatic:method Sys read ()I", "|" + full, "depth"}, {"invokevirtual:method A y ()V", "|", "missing"}, {"invokevirtual:method A y ()V", "|I", "missing"}, {"invokevirtual:method A v (I)I", "|I", "depth"}, {"invokevirtual:method A v (I)I", "|J", "type"}, {"invokevirtual:method A v (I)I", "|" + full + " N I", "depth"}, {"invokevirtual:method A v (I)I", "|" + full + " I I", "type"},
		{"invokespecial:method A v ()V", "|", "missing"}, {"invokespecial:method A v ()V", "|I", "missing"}, {"invokespecial:method A <init> (J)V", "|I", "missing"}, {"invokespecial:method A <init> (IJLA;)V", "|I", "type"}, {"invokespecial:method A <init> (IJLA;)V", "|J N", "depth"},
		{"new @4:class None", "|" + full, "missing"}, {"new @4:class [I", "|@4", "missing"}, {"new @4:class Sys", "|" + full, "type"}, {"new @4:class A", "|@4 I J I", "type"}, {"new @4:class A", "|" + full, "depth"}, {"new @4:class Sys", "|@4", "type"},
		{"checkcast:class None", "|", "missing"}, {"checkcast:class None", "|I", "missing"}, {"checkcast:class [LNone;", "|" + full + " N", "missing"}, {"instanceof:class [LNone;", "|" + full + " N", "missing"}, {"checkcast:class A", "|" + full + " I", "type"}, {"checkcast:class A", "|" + full + " N", "depth"}, {"instanceof:class None", "|I", "missing"}, {"instanceof:class A", "|" + full + " I", "type"}, {"instanceof:class A", "|" + full + " N", "depth"},
		{"ireturn", "|", "type"}, {"return", "!|", "type"}, {"if_icmpeq", "|J", "type"}, {"if_icmpeq", "|I", "depth"}, {"if_acmpeq", "|I", "type"}, {"lshl", "|J", "type"}, {"lshl", "|I", "depth"}, {"dup", "|" + full, "depth"}, {"dup_x1", "|" + full, "depth"}, {"swap", "|" + full, "|I J J I"},
	})
}
