package rules_test

import (
	"strings"
	"testing"

	"understudy/api"
	"understudy/link"
	"understudy/ops"
	"understudy/rules"
)

// example is an instruction, a frame, and what it makes of that: a frame, or an error. The name may have a constant, or an A, behind it.
type example struct {
	instr, frame, want string
}

// errorsByName are the errors that examples name.
var errorsByName = map[string]api.Errno{"missing": api.ErrMissing, "type": api.ErrType, "depth": api.ErrDepth, "local": api.ErrLocal}

// instrOf reads an instruction: a name, a place where it begins behind @, and a number, or a constant behind a colon.
func instrOf(s string) api.Instr {
	head, label, isLabel := strings.Cut(s, ":")
	f := strings.Fields(head)
	i := api.Instr{Op: op(f[0])}
	if isLabel {
		i.A = at(label)
	}
	for _, w := range f[1:] {
		if rest, isAt := strings.CutPrefix(w, "@"); isAt {
			i.At = numberOf(rest)
		} else {
			i.A = numberOf(w)
		}
	}
	return i
}

// numberOf reads a number.
func numberOf(s string) int {
	n := 0
	for _, c := range strings.TrimPrefix(s, "-") {
		n = n*10 + int(c-'0')
	}
	if s[0] == '-' {
		return -n
	}
	return n
}

// holds asks for all of the examples at the spot, and that the hand says the same.
func holds(t *testing.T, s spot, l []example) {
	t.Helper()
	x := s.place()
	for _, c := range l {
		i, f := instrOf(c.instr), frameOf(c.frame)
		var want api.Frame
		e := errorsByName[c.want]
		if e == api.OK {
			want = frameOf(c.want)
		}
		gives(t, x, i, f, want, e)
		if g, err := stepByHand(s, i, f); err != e || !same(g, want) {
			t.Errorf("by hand %s of %s: %s, %d; want %s", c.instr, c.frame, show(g), err, c.want)
		}
	}
}

func TestExamples(t *testing.T) { // the chapter's examples
	holds(t, usual, []example{{"iadd", "|I I", "|I"}, {"iadd", "|I J", "type"}, {"pop", "|", "depth"}})
}

func TestSimple(t *testing.T) { // P11.2, the table: what only pushes, and what turns the stack about
	holds(t, usual, []example{
		{"nop", "I this|J T", "I this|J T"}, {"nop", "!|", "!|"},
		{"aconst_null", "|I", "|I N"}, {"sipush 7", "|", "|I"}, {"sipush -7", "J|N", "J|N I"}, {"lconst_0", "|", "|J"},
		{"ldc:int", "|J", "|J I"}, {"ldc:long", "|", "missing"}, {"ldc:text A", "|", "missing"}, {"ldc:class A", "|", "missing"}, {"ldc:none", "|", "missing"}, {"ldc:field A f I", "|", "missing"},
		{"ldc2_w:long", "|J", "|J J"}, {"ldc2_w:int", "|", "missing"}, {"ldc2_w:text A", "|", "missing"}, {"ldc2_w:none", "|", "missing"}, {"ldc2_w:name f I", "|", "missing"},
		{"pop", "|I J", "|I"}, {"pop", "|T", "|"}, {"pop", "|this", "|"}, {"pop", "|@3", "|"}, {"pop", "|V", "|"},
		{"dup", "|I J", "|I J J"}, {"dup", "|@3", "|@3 @3"}, {"dup", "|T", "|T T"}, {"dup", "|", "depth"},
		{"dup_x1", "|N I J", "|N J I J"}, {"dup_x1", "|T @3", "|@3 T @3"}, {"dup_x1", "|I", "depth"}, {"dup_x1", "|", "depth"},
		{"swap", "|N I J", "|N J I"}, {"swap", "|this T", "|T this"}, {"swap", "|I", "depth"}, {"swap", "|", "depth"},
	})
}

func TestLocals(t *testing.T) { // P11.2, the table: what asks for a local
	holds(t, usual, []example{
		{"iload 1", "J I|N", "J I|N I"}, {"iload 0", "J I|", "type"}, {"iload 1", "I T|", "type"}, {"iload 2", "I I|", "local"}, {"iload -1", "I I|", "local"}, {"iload 3", "I I|", "local"}, {"iload 0", "|", "local"}, {"iload 8", "I|", "local"},
		{"lload 0", "J I|", "J I|J"}, {"lload 1", "J I|", "type"}, {"lload 2", "J J|", "local"}, {"lload 0", "N|", "type"},
		{"aload 0", "N|", "N|N"}, {"aload 0", "LA;|", "LA;|LA;"}, {"aload 0", "LNone;|", "LNone;|LNone;"}, {"aload 0", "[[J|", "[[J|[[J"}, {"aload 0", "@4|", "@4|@4"}, {"aload 0", "this|", "this|this"}, {"aload 0", "!this|", "!this|this"},
		{"aload 0", "I|", "type"}, {"aload 0", "J|", "type"}, {"aload 0", "T|", "type"}, {"aload 0", "V|", "type"}, {"aload 1", "N|", "local"}, {"aload -1", "N|", "local"},
		{"istore 1", "J J|N I", "J I|N"}, {"istore 0", "this|I", "I|"}, {"istore 0", "J|J", "type"}, {"istore 0", "J|T", "type"}, {"istore 1", "J|I", "local"}, {"istore -1", "J|I", "local"}, {"istore 0", "J|", "depth"}, {"istore 9", "J|", "depth"}, {"istore 9", "J|N", "type"},
		{"lstore 0", "I|J", "J|"}, {"lstore 0", "I|I", "type"}, {"lstore 1", "I|J", "local"}, {"lstore 1", "I|", "depth"},
		{"astore 0", "I|N", "N|"}, {"astore 0", "I|LA;", "LA;|"}, {"astore 0", "I|[I", "[I|"}, {"astore 0", "I|@4", "@4|"}, {"astore 0", "I|this", "this|"}, {"astore 0", "!I|this", "!this|"}, {"astore 0", "!this|N", "!N|"},
		{"astore 0", "I|I", "type"}, {"astore 0", "I|J", "type"}, {"astore 0", "I|T", "type"}, {"astore 0", "I|V", "type"}, {"astore 1", "I|N", "local"}, {"astore 1", "I|I", "type"}, {"astore 1", "I|", "depth"},
		{"iinc 1", "J I|N", "J I|N"}, {"iinc 0", "J I|N", "type"}, {"iinc 2", "I I|", "local"}, {"iinc -1", "I I|", "local"}, {"iinc 0", "T|", "type"}, {"iinc 0", "[I|", "type"},
	})
}

func TestArrays(t *testing.T) { // P11.2, the table: what makes arrays, and what asks them
	holds(t, usual, []example{
		{"iaload", "|J [I I", "|J I"}, {"iaload", "|N I", "|I"}, {"iaload", "|[J I", "type"}, {"iaload", "|[[I I", "type"}, {"iaload", "|[LA; I", "type"}, {"iaload", "|LObject; I", "type"}, {"iaload", "|I I", "type"}, {"iaload", "|[I J", "type"}, {"iaload", "|I", "depth"}, {"iaload", "|J", "type"}, {"iaload", "|", "depth"},
		{"laload", "|[J I", "|J"}, {"laload", "|N I", "|J"}, {"laload", "|[I I", "type"}, {"laload", "|[[J I", "type"}, {"laload", "|[J J", "type"}, {"laload", "|I", "depth"},
		{"aaload", "|N I", "|N"}, {"aaload", "|[LA; I", "|LA;"}, {"aaload", "|[[I I", "|[I"}, {"aaload", "|[[[[LA; I", "|[[[LA;"}, {"aaload", "|[[[[I I", "|[[[I"}, {"aaload", "|[LNone; I", "|LNone;"}, {"aaload", "|[I I", "type"}, {"aaload", "|[J I", "type"}, {"aaload", "|LObject; I", "type"}, {"aaload", "|[LA; J", "type"}, {"aaload", "|@3 I", "type"}, {"aaload", "|this I", "type"}, {"aaload", "|T I", "type"}, {"aaload", "|I", "depth"}, {"aaload", "|", "depth"},
		{"iastore", "|J [I I I", "|J"}, {"iastore", "|N I I", "|"}, {"iastore", "|[J I I", "type"}, {"iastore", "|[I J I", "type"}, {"iastore", "|[I I J", "type"}, {"iastore", "|[[I I I", "type"}, {"iastore", "|I I", "depth"}, {"iastore", "|I", "depth"}, {"iastore", "|", "depth"},
		{"lastore", "|[J I J", "|"}, {"lastore", "|N I J", "|"}, {"lastore", "|[J J I", "type"}, {"lastore", "|[J I I", "type"}, {"lastore", "|[J J J", "type"}, {"lastore", "|[I I J", "type"}, {"lastore", "|[[J I J", "type"}, {"lastore", "|I J", "depth"},
		{"aastore", "|[LA; I LA;", "|"}, {"aastore", "|[LA; I LF;", "|"}, {"aastore", "|[LA; I N", "|"}, {"aastore", "|[LA; I [I", "|"}, {"aastore", "|[[I I N", "|"}, {"aastore", "|N I LA;", "|"}, {"aastore", "|[I I LA;", "type"}, {"aastore", "|[J I N", "type"}, {"aastore", "|LObject; I N", "type"}, {"aastore", "|[LA; J N", "type"}, {"aastore", "|[LA; I I", "type"}, {"aastore", "|[LA; I @3", "type"}, {"aastore", "|[LA; I this", "type"}, {"aastore", "|[LA; I T", "type"}, {"aastore", "|@3 I N", "type"}, {"aastore", "|I N", "depth"}, {"aastore", "|N", "depth"}, {"aastore", "|", "depth"},
		{"newarray 10", "|J I", "|J [I"}, {"newarray 11", "|I", "|[J"}, {"newarray 9", "|I", "type"}, {"newarray 12", "|I", "type"}, {"newarray 0", "|I", "type"}, {"newarray -10", "|I", "type"}, {"newarray 10", "|J", "type"}, {"newarray 10", "|", "depth"}, {"newarray 11", "|", "depth"}, {"newarray 9", "|", "type"},
		{"anewarray:class A", "|J I", "|J [LA;"}, {"anewarray:class Sys", "|I", "|[LSys;"}, {"anewarray:class [I", "|I", "|[[I"}, {"anewarray:class [J", "|I", "|[[J"}, {"anewarray:class [[[I", "|I", "|[[[[I"}, {"anewarray:class [[[LA;", "|I", "|[[[[LA;"}, {"anewarray:class [LG;", "|I", "|[[LG;"}, {"anewarray:class [LObject;", "|I", "|[[LObject;"},
		{"anewarray:class [[[[I", "|I", "type"}, {"anewarray:class [[[[LA;", "|I", "type"}, {"anewarray:class [LNone;", "|I", "missing"}, {"anewarray:class [LNone;", "|J", "missing"}, {"anewarray:class [LNone;", "|", "missing"}, {"anewarray:class [[[[LNone;", "|I", "missing"}, {"anewarray:class [[[[I", "|", "depth"}, {"anewarray:class A", "|J", "type"}, {"anewarray:class A", "|", "depth"}, {"anewarray:class None", "|I", "missing"}, {"anewarray:class None", "|", "missing"}, {"anewarray:class [[[[[I", "|I", "missing"}, {"anewarray:text A", "|I", "missing"}, {"anewarray:int", "|J", "missing"},
		{"arraylength", "|J N", "|J I"}, {"arraylength", "|[I", "|I"}, {"arraylength", "|[[LA;", "|I"}, {"arraylength", "|LObject;", "type"}, {"arraylength", "|I", "type"}, {"arraylength", "|@3", "type"}, {"arraylength", "|T", "type"}, {"arraylength", "|", "depth"},
	})
}

func TestArithmetic(t *testing.T) { // P11.2, the table: what makes numbers of numbers
	for _, n := range strings.Fields("iadd isub imul idiv irem iand ior ixor ishl ishr iushr") {
		holds(t, usual, []example{{n, "I|J I I", "I|J I"}, {n, "|I J", "type"}, {n, "|J I", "type"}, {n, "|T I", "type"}, {n, "|N I", "type"}, {n, "|[I I", "type"}, {n, "|I", "depth"}, {n, "|J", "type"}, {n, "|", "depth"}})
	}
	for _, n := range strings.Fields("ladd lsub lmul ldiv lrem land lor lxor") {
		holds(t, usual, []example{{n, "J|I J J", "J|I J"}, {n, "|I J", "type"}, {n, "|J I", "type"}, {n, "|T J", "type"}, {n, "|J N", "type"}, {n, "|J", "depth"}, {n, "|I", "type"}, {n, "|", "depth"}})
	}
	for _, n := range strings.Fields("lshl lshr lushr") {
		holds(t, usual, []example{{n, "|N J I", "|N J"}, {n, "|J J", "type"}, {n, "|I I", "type"}, {n, "|I J", "type"}, {n, "|I", "depth"}, {n, "|J", "type"}, {n, "|", "depth"}})
	}
	holds(t, usual, []example{
		{"ineg", "|J I", "|J I"}, {"ineg", "|J", "type"}, {"ineg", "|", "depth"}, {"lneg", "|I J", "|I J"}, {"lneg", "|I", "type"}, {"lneg", "|", "depth"},
		{"i2l", "|I I", "|I J"}, {"i2l", "|J", "type"}, {"i2l", "|", "depth"}, {"l2i", "|J J", "|J I"}, {"l2i", "|I", "type"}, {"l2i", "|", "depth"},
		{"lcmp", "|I J J", "|I I"}, {"lcmp", "|J I", "type"}, {"lcmp", "|I J", "type"}, {"lcmp", "|J", "depth"}, {"lcmp", "|", "depth"},
	})
}

func TestLeads(t *testing.T) { // P11.2, the table: what leads elsewhere, maybe
	for _, n := range strings.Fields("ifeq ifne iflt ifge ifgt ifle") {
		holds(t, usual, []example{{n + " 3", "I|J I", "I|J"}, {n, "|J", "type"}, {n, "|N", "type"}, {n, "|T", "type"}, {n, "|", "depth"}})
	}
	for _, n := range strings.Fields("if_icmpeq if_icmpne if_icmplt if_icmpge if_icmpgt if_icmple") {
		holds(t, usual, []example{{n + " 3", "|J I I", "|J"}, {n, "|I J", "type"}, {n, "|J I", "type"}, {n, "|N N", "type"}, {n, "|I", "depth"}, {n, "|", "depth"}})
	}
	for _, n := range strings.Fields("if_acmpeq if_acmpne") {
		holds(t, usual, []example{{n + " 3", "|I LA; LF;", "|I"}, {n, "|N [I", "|"}, {n, "|[J N", "|"}, {n, "|LA; I", "type"}, {n, "|J LA;", "type"}, {n, "|@3 LA;", "type"}, {n, "|LA; @3", "type"}, {n, "|this N", "type"}, {n, "|N this", "type"}, {n, "|T N", "type"}, {n, "|N", "depth"}, {n, "|I", "type"}, {n, "|", "depth"}})
	}
	for _, n := range strings.Fields("ifnull ifnonnull monitorenter monitorexit") {
		holds(t, usual, []example{{n, "|I LA;", "|I"}, {n, "|N", "|"}, {n, "|[I", "|"}, {n, "|LNone;", "|"}, {n, "|I", "type"}, {n, "|J", "type"}, {n, "|@3", "type"}, {n, "|this", "type"}, {n, "|T", "type"}, {n, "|V", "type"}, {n, "|", "depth"}})
	}
	holds(t, usual, []example{{"goto 3", "!I this|J T", "!I this|J T"}, {"goto", "|", "|"}})
}

func TestReturns(t *testing.T) { // P11.2, the table: what the method answers, and that a constructor has begun
	returns := []string{"ireturn", "lreturn", "areturn", "return"}
	for _, c := range []struct {
		at    spot
		right string
		takes string // what goes
		not   string // what may not
	}{
		{spot{"C", "u ()I", 4}, "ireturn", "I", "J N LA; T [I @0 this"},
		{spot{"A", "z (IJ)J", 4}, "lreturn", "J", "I N LA; T [J @0 this"},
		{spot{"A", "w (JLA;[I)LB;", 4}, "areturn", "LB; LC; N", "I J LA; LObject; [I [LB; T @3 this LNone;"},
		{spot{"A", "x (LA;[LA;)[I", 4}, "areturn", "[I N", "I J [J [[I LObject; LA; T @3 this"},
		{spot{"B", "a ()[[LA;", 4}, "areturn", "[[LA; [[LB; [[LC; N", "I [LA; [[[LA; [[LObject; [[I LA; this"},
		{spot{"A", "n ()LNone;", 4}, "areturn", "LNone; N", "LA; LObject; [I I"},
		{spot{"A", "v ()V", 4}, "return", "", ""},
		{spot{"A", "main ()V", 4}, "return", "", ""},
		{spot{"B", "<init> (I)V", 4}, "return", "", ""},
	} {
		for _, n := range returns {
			if n != c.right {
				holds(t, c.at, []example{{n, "|", "type"}, {n, "|I", "type"}, {n, "|J", "type"}, {n, "|N", "type"}, {n, "|LB;", "type"}, {n, "|[I", "type"}})
			}
		}
		if c.right == "return" {
			holds(t, c.at, []example{{"return", "I|", "I|"}, {"return", "|I J", "|I J"}, {"return", "!|", "type"}, {"return", "!this|I", "type"}, {"return", "this|this", "this|this"}})
			continue
		}
		holds(t, c.at, []example{{c.right, "|", "depth"}, {c.right, "I|J", map[bool]string{true: "I|", false: "type"}[c.right == "lreturn"]}})
		for _, x := range strings.Fields(c.takes) {
			holds(t, c.at, []example{{c.right, "I|" + x, "I|"}, {c.right, "!|J " + x, "!|J"}})
		}
		for _, x := range strings.Fields(c.not) {
			holds(t, c.at, []example{{c.right, "|" + x, "type"}})
		}
	}
}

func TestThrown(t *testing.T) { // P11.2, the table: athrow
	holds(t, usual, []example{
		{"athrow", "|I LThrowable;", "|I"}, {"athrow", "|LE;", "|"}, {"athrow", "|LDivError;", "|"}, {"athrow", "|N", "|"},
		{"athrow", "|LA;", "type"}, {"athrow", "|LObject;", "type"}, {"athrow", "|LNone;", "type"}, {"athrow", "|[LE;", "type"}, {"athrow", "|I", "type"}, {"athrow", "|@9", "type"}, {"athrow", "|this", "type"}, {"athrow", "|", "depth"},
	})
}

func TestFields(t *testing.T) { // P11.2, the table: fields, of which class they are asked, which are static
	holds(t, usual, []example{
		{"getstatic:field A s I", "|J", "|J I"}, {"getstatic:field A t LA;", "|", "|LA;"}, {"getstatic:field A w J", "|", "|J"}, {"getstatic:field B f I", "|", "|I"}, {"getstatic:field B s J", "|", "|J"}, {"getstatic:field B s I", "|", "|I"}, {"getstatic:field C s J", "|", "|J"}, {"getstatic:field C f I", "|", "|I"}, {"getstatic:field A both I", "|", "|I"}, {"getstatic:field B t LA;", "|", "|LA;"},
		{"getstatic:field B both I", "|", "missing"}, {"getstatic:field A f I", "|", "missing"}, {"getstatic:field F f I", "|", "missing"}, {"getstatic:field A none I", "|", "missing"}, {"getstatic:field None f I", "|", "missing"}, {"getstatic:field [I f I", "|", "missing"}, {"getstatic:field Sys s I", "|", "missing"}, {"getstatic:field A v ()V", "|", "missing"}, {"getstatic:method A main ()V", "|", "missing"}, {"getstatic:class A", "|", "missing"}, {"getstatic:name s I", "|", "missing"}, {"getstatic:none", "|", "missing"}, {"getstatic:text A", "|", "missing"},
		{"putstatic:field A s I", "|J I", "|J"}, {"putstatic:field A s I", "|J", "type"}, {"putstatic:field A s I", "|", "depth"}, {"putstatic:field A t LA;", "|LA;", "|"}, {"putstatic:field A t LA;", "|LC;", "|"}, {"putstatic:field A t LA;", "|N", "|"}, {"putstatic:field A t LA;", "|LF;", "type"}, {"putstatic:field A t LA;", "|LObject;", "type"}, {"putstatic:field A t LA;", "|@0", "type"}, {"putstatic:field A t LA;", "|this", "type"}, {"putstatic:field B s J", "|J", "|"}, {"putstatic:field B s I", "|J", "type"}, {"putstatic:field A f I", "|I", "missing"}, {"putstatic:field B both I", "|", "missing"}, {"putstatic:method A main ()V", "|", "missing"},
		{"getfield:field A f I", "|J LA;", "|J I"}, {"getfield:field A f I", "|LC;", "|I"}, {"getfield:field A f I", "|N", "|I"}, {"getfield:field A g J", "|LA;", "|J"}, {"getfield:field B g J", "|LB;", "|J"}, {"getfield:field B g J", "|LA;", "type"}, {"getfield:field A h LA;", "|LA;", "|LA;"}, {"getfield:field C k [[LB;", "|LC;", "|[[LB;"}, {"getfield:field C k [[LB;", "|LB;", "type"}, {"getfield:field B both I", "|LB;", "|I"}, {"getfield:field B o LNone;", "|LC;", "|LNone;"},
		{"getfield:field A f I", "|LF;", "type"}, {"getfield:field A f I", "|LObject;", "type"}, {"getfield:field A f I", "|[LA;", "type"}, {"getfield:field A f I", "|@0", "type"}, {"getfield:field A f I", "|this", "type"}, {"getfield:field A f I", "|I", "type"}, {"getfield:field A f I", "|", "depth"},
		{"getfield:field A s I", "|LA;", "missing"}, {"getfield:field B f I", "|LB;", "missing"}, {"getfield:field C f I", "|LC;", "missing"}, {"getfield:field A none I", "|LA;", "missing"}, {"getfield:field A f J", "|LA;", "missing"}, {"getfield:field B h LB;", "|LB;", "missing"}, {"getfield:field Object f I", "|LObject;", "missing"}, {"getfield:field [LA; g J", "|[LA;", "missing"}, {"getfield:field G f I", "|LG;", "missing"}, {"getfield:method A v ()V", "|LA;", "missing"}, {"getfield:long", "|LA;", "missing"},
		{"putfield:field A f I", "|J LA; I", "|J"}, {"putfield:field A f I", "|LB; I", "|"}, {"putfield:field A f I", "|N I", "|"}, {"putfield:field A h LA;", "|LA; LC;", "|"}, {"putfield:field A h LA;", "|LA; N", "|"}, {"putfield:field C m LB;", "|LC; LB;", "|"}, {"putfield:field C m LB;", "|LB; LB;", "type"}, {"putfield:field C m LB;", "|LC; LA;", "type"},
		{"putfield:field A f I", "|LA; J", "type"}, {"putfield:field A f I", "|I LA;", "type"}, {"putfield:field A f I", "|LF; I", "type"}, {"putfield:field A f I", "|this I", "type"}, {"putfield:field A f I", "|@0 I", "type"}, {"putfield:field A h LA;", "|LA; this", "type"}, {"putfield:field A f I", "|I", "depth"}, {"putfield:field A f I", "|J", "type"}, {"putfield:field A f I", "|", "depth"}, {"putfield:field A s I", "|LA; I", "missing"}, {"putfield:field B f I", "|", "missing"},
	})
}

func TestInvoked(t *testing.T) { // P11.2, the table: methods, what they take, the last one first, and what they answer
	holds(t, usual, []example{
		{"invokestatic:method A main ()V", "|J", "|J"}, {"invokestatic:method A y ()V", "|", "|"}, {"invokestatic:method B y ()V", "|", "|"}, {"invokestatic:method C u ()I", "|J", "|J I"}, {"invokestatic:method A z (IJ)J", "|N I J", "|N J"}, {"invokestatic:method B z (IJ)J", "|I J", "|J"}, {"invokestatic:method A x (LA;[LA;)[I", "|LB; [LC;", "|[I"}, {"invokestatic:method C x (LA;[LA;)[I", "|N N", "|[I"}, {"invokestatic:method A n ()LNone;", "|", "|LNone;"},
		{"invokestatic:method Sys read ()I", "|", "|I"}, {"invokestatic:method Sys clock ()J", "|", "|J"}, {"invokestatic:method Sys write (J)V", "|I J", "|I"}, {"invokestatic:method Sys write (J)V", "|I", "type"}, {"invokestatic:method C p (IJLA;[I[[LB;LObject;)V", "|N I J LB; [I [[LC; [J", "|N"}, {"invokestatic:method C p (IJLA;[I[[LB;LObject;)V", "|I J LA; [I [[LB; @0", "type"}, {"invokestatic:method C p (IJLA;[I[[LB;LObject;)V", "|J I LA; [I [[LB; N", "type"}, {"invokestatic:method C p (IJLA;[I[[LB;LObject;)V", "|J LA; [I [[LB; N", "depth"},
		{"invokestatic:method A z (IJ)J", "|J I", "type"}, {"invokestatic:method A z (IJ)J", "|I I", "type"}, {"invokestatic:method A z (IJ)J", "|J J", "type"}, {"invokestatic:method A z (IJ)J", "|J", "depth"}, {"invokestatic:method A z (IJ)J", "|I", "type"}, {"invokestatic:method A z (IJ)J", "|", "depth"}, {"invokestatic:method A x (LA;[LA;)[I", "|this [LA;", "type"},
		{"invokestatic:method A v ()V", "|LA;", "missing"}, {"invokestatic:method A <init> ()V", "|this", "missing"}, {"invokestatic:method A none ()V", "|", "missing"}, {"invokestatic:method None v ()V", "|", "missing"}, {"invokestatic:method A f I", "|", "missing"}, {"invokestatic:field A s I", "|", "missing"}, {"invokestatic:class A", "|", "missing"}, {"invokestatic:none", "|", "missing"}, {"invokestatic:name v ()V", "|", "missing"}, {"invokestatic:method Object wait ()V", "|N", "missing"},
		{"invokevirtual:method A v ()V", "|I LA;", "|I"}, {"invokevirtual:method A v ()V", "|LC;", "|"}, {"invokevirtual:method A v ()V", "|N", "|"}, {"invokevirtual:method B v ()V", "|LB;", "|"}, {"invokevirtual:method B v ()V", "|LA;", "type"}, {"invokevirtual:method A v (I)I", "|J LA; I", "|J I"}, {"invokevirtual:method C v (I)I", "|LC; I", "|I"}, {"invokevirtual:method C v (I)I", "|LB; I", "type"}, {"invokevirtual:method A w (JLA;[I)LB;", "|LB; J LC; N", "|LB;"}, {"invokevirtual:method A l ()J", "|LA;", "|J"}, {"invokevirtual:method B own ([[J)[LA;", "|LB; [[J", "|[LA;"},
		{"invokevirtual:method Object wait ()V", "|LA;", "|"}, {"invokevirtual:method Object wait ()V", "|[I", "|"}, {"invokevirtual:method Object wait ()V", "|[[LA;", "|"}, {"invokevirtual:method Object wait ()V", "|LNone;", "type"}, {"invokevirtual:method Object wait ()V", "|@0", "type"}, {"invokevirtual:method Object wait ()V", "|this", "type"}, {"invokevirtual:method A wait ()V", "|LA;", "|"}, {"invokevirtual:method A wait ()V", "|[LA;", "type"}, {"invokevirtual:method G start ()V", "|LG;", "|"}, {"invokevirtual:method G run ()V", "|LThread;", "type"}, {"invokevirtual:method Thread run ()V", "|LG;", "|"}, {"invokevirtual:method Sys wait ()V", "|LSys;", "|"}, {"invokevirtual:method E notify ()V", "|LE;", "|"},
		{"invokevirtual:method A v (I)I", "|LA; J", "type"}, {"invokevirtual:method A v (I)I", "|I LA;", "type"}, {"invokevirtual:method A v (I)I", "|LF; I", "type"}, {"invokevirtual:method A v (I)I", "|this I", "type"}, {"invokevirtual:method A v (I)I", "|@0 I", "type"}, {"invokevirtual:method A v (I)I", "|I", "depth"}, {"invokevirtual:method A v (I)I", "|", "depth"}, {"invokevirtual:method A w (JLA;[I)LB;", "|LA; I LA; N", "type"}, {"invokevirtual:method A w (JLA;[I)LB;", "|LA; J LF; N", "type"}, {"invokevirtual:method A w (JLA;[I)LB;", "|J LA; [I", "depth"},
		{"invokevirtual:method A y ()V", "|LA;", "missing"}, {"invokevirtual:method A <init> ()V", "|LA;", "missing"}, {"invokevirtual:method Sys read ()I", "|LSys;", "missing"}, {"invokevirtual:method A v (J)I", "|LA; J", "missing"}, {"invokevirtual:method F v (I)I", "|LF; I", "missing"}, {"invokevirtual:method [I wait ()V", "|[I", "missing"}, {"invokevirtual:method [LA; v ()V", "|[LA;", "missing"}, {"invokevirtual:field A v ()V", "|LA;", "missing"}, {"invokevirtual:text A", "|LA;", "missing"},
	})
}

func TestBegunNew(t *testing.T) { // P11.2, the table: invokespecial of what new made
	holds(t, spot{"B", "<init> (I)V", 9}, []example{
		{"invokespecial:method A <init> ()V", "|@0", "|"}, {"invokespecial:method A <init> ()V", "@0 I @0|@0 J @0 @0", "LA; I LA;|LA; J LA;"}, {"invokespecial:method A <init> ()V", "@18 @0|@0 @18", "LA; @0|@0"}, {"invokespecial:method A <init> ()V", "@0 this|this @0", "LA; this|this"},
		{"invokespecial:method A <init> ()V", "!@0 this|this @0", "!LA; this|this"}, {"invokespecial:method A <init> (IJLA;)V", "@0 @3|N @0 @0 I J LB;", "LA; @3|N LA;"}, {"invokespecial:method B <init> (I)V", "@3 @0|@3 I", "LB; @0|"}, {"invokespecial:method C <init> (J)V", "|@6 @6 J", "|LC;"}, {"invokespecial:method Object <init> ()V", "|@15 @15", "|LObject;"}, {"invokespecial:method DivError <init> ()V", "|@27 @27", "|LDivError;"}, {"invokespecial:method Throwable <init> ()V", "|@30 @30", "|LThrowable;"}, {"invokespecial:method E <init> ()V", "|@9 @9", "|LE;"},
		{"invokespecial:method A <init> ()V", "|@3", "type"}, {"invokespecial:method A <init> ()V", "|@6", "type"}, {"invokespecial:method B <init> ()V", "|@0", "type"}, {"invokespecial:method B <init> ()V", "|@6", "type"}, {"invokespecial:method Object <init> ()V", "|@0", "type"}, {"invokespecial:method F <init> ()V", "|@9", "type"}, {"invokespecial:method Throwable <init> ()V", "|@9", "type"}, {"invokespecial:method Throwable <init> ()V", "|@27", "type"},
		{"invokespecial:method A <init> ()V", "|@1", "type"}, {"invokespecial:method A <init> ()V", "|@2", "type"}, {"invokespecial:method A <init> ()V", "|@33", "type"}, {"invokespecial:method A <init> ()V", "|@36", "type"}, {"invokespecial:method A <init> ()V", "|@39", "type"}, {"invokespecial:method A <init> ()V", "|@42", "type"}, {"invokespecial:method A <init> ()V", "|@43", "type"}, {"invokespecial:method A <init> ()V", "|@44", "type"}, {"invokespecial:method A <init> ()V", "|@45", "type"}, {"invokespecial:method A <init> ()V", "|@-1", "type"}, {"invokespecial:method A <init> ()V", "|@65536", "type"}, {"invokespecial:method A <init> ()V", "|@4294967296", "type"},
		{"invokespecial:method A <init> ()V", "|LA;", "type"}, {"invokespecial:method A <init> ()V", "|N", "type"}, {"invokespecial:method A <init> ()V", "|T", "type"}, {"invokespecial:method A <init> ()V", "|I", "type"}, {"invokespecial:method A <init> ()V", "|[I", "type"}, {"invokespecial:method A <init> ()V", "|V", "type"}, {"invokespecial:method A <init> ()V", "|", "depth"}, {"invokespecial:method A <init> ()V", "@0|", "depth"},
		{"invokespecial:method A <init> (IJLA;)V", "|@0 I J LF;", "type"}, {"invokespecial:method A <init> (IJLA;)V", "|@0 I J @0", "type"}, {"invokespecial:method A <init> (IJLA;)V", "|@0 J I N", "type"}, {"invokespecial:method A <init> (IJLA;)V", "|I J LA;", "depth"}, {"invokespecial:method A <init> (IJLA;)V", "|I J", "type"}, {"invokespecial:method A <init> (IJLA;)V", "|J LA;", "depth"}, {"invokespecial:method A <init> (IJLA;)V", "|", "depth"},
		{"invokespecial:method A v ()V", "|LA;", "missing"}, {"invokespecial:method A y ()V", "|", "missing"}, {"invokespecial:method C <init> ()V", "|@6", "missing"}, {"invokespecial:method B <init> (IJLA;)V", "|@3 I J N", "missing"}, {"invokespecial:method A <init> (J)V", "|@0 J", "missing"}, {"invokespecial:method Sys <init> ()V", "|@21", "missing"}, {"invokespecial:method None <init> ()V", "|@24", "missing"}, {"invokespecial:method [I <init> ()V", "|@39", "missing"}, {"invokespecial:class A", "|@0", "missing"}, {"invokespecial:field A f I", "|@0", "missing"}, {"invokespecial:none", "|@0", "missing"},
	})
}

func TestBegunThis(t *testing.T) { // P11.2, the table: invokespecial of what a constructor makes
	for _, s := range []spot{{"B", "<init> (I)V", 9}, {"B", "v (I)I", 9}} { // what the method is does not count
		holds(t, s, []example{
			{"invokespecial:method B <init> ()V", "!this|this", "LB;|"}, {"invokespecial:method B <init> (I)V", "!this I this|this J this I", "LB; I LB;|LB; J"}, {"invokespecial:method A <init> ()V", "!this|this this", "LB;|LB;"}, {"invokespecial:method A <init> ()V", "this @0|@3 this this", "LB; @0|@3 LB;"}, {"invokespecial:method A <init> (IJLA;)V", "!this LA;|this I J N", "LB; LA;|"}, {"invokespecial:method A <init> ()V", "!I|this", "I|"},
			{"invokespecial:method Object <init> ()V", "!this|this", "type"}, {"invokespecial:method C <init> (J)V", "!this|this J", "type"}, {"invokespecial:method F <init> ()V", "!this|this", "type"}, {"invokespecial:method E <init> ()V", "!this|this", "type"}, {"invokespecial:method Thread <init> ()V", "!this|this", "type"},
		})
	}
	holds(t, spot{"A", "<init> ()V", 9}, []example{{"invokespecial:method Object <init> ()V", "!this|this", "LA;|"}, {"invokespecial:method A <init> (IJLA;)V", "!this|this I J N", "LA;|"}, {"invokespecial:method B <init> ()V", "!this|this", "type"}, {"invokespecial:method Throwable <init> ()V", "!this|this", "type"}})
	holds(t, spot{"E", "<init> ()V", 9}, []example{{"invokespecial:method Throwable <init> ()V", "!this|this", "LE;|"}, {"invokespecial:method E <init> ()V", "!this|this", "LE;|"}, {"invokespecial:method Object <init> ()V", "!this|this", "type"}, {"invokespecial:method DivError <init> ()V", "!this|this", "type"}})
	holds(t, spot{"C", "u ()I", 9}, []example{{"invokespecial:method B <init> (I)V", "!this this|this this I", "LC; LC;|LC;"}, {"invokespecial:method A <init> ()V", "!this|this", "type"}})
	holds(t, spot{"G", "<init> ()V", 9}, []example{{"invokespecial:method Thread <init> ()V", "!this|this", "LG;|"}})
}

func TestNew(t *testing.T) { // P11.2, the table: new, and that no two of one place are told apart
	holds(t, usual, []example{
		{"new @4:class A", "|I", "|I @4"}, {"new @4:class E", "|", "|@4"}, {"new @0:class Object", "|", "|@0"}, {"new @7:class DivError", "|", "|@7"}, {"new @-9:class A", "|", "|@-9"}, {"new @99999:class Thread", "|", "|@99999"},
		{"new @4:class A", "|@4", "type"}, {"new @4:class A", "|@4 I @3", "type"}, {"new @4:class A", "@4|@3 @4", "type"}, {"new @4:class A", "@4 I @3 @4|@3", "T I @3 T|@3 @4"}, {"new @4:class B", "@4|", "T|@4"}, {"new @4:class A", "!this @4|this", "!this T|this @4"}, {"new @4:class A", "@5|@5 @3", "@5|@5 @3 @4"},
		{"new @4:class Sys", "|", "type"}, {"new @4:class [I", "|", "missing"}, {"new @4:class [LA;", "|", "missing"}, {"new @4:class [LNone;", "|", "missing"}, {"new @4:class None", "|", "missing"}, {"new @4:class ", "|", "missing"}, {"new @4:class LA;", "|", "missing"}, {"new @4:text A", "|", "missing"}, {"new @4:none", "|", "missing"}, {"new @4:int", "|", "missing"}, {"new @4:field A f I", "|", "missing"}, {"new @4:class [I", "|@4", "missing"},
	})
	holds(t, spot{"A", "main ()V", 1}, []example{{"new @4:class A", "@4|", "T|@4"}, {"new @4:class A", "@4|I", "depth"}, {"new @4:class A", "|@4", "type"}, {"new @4:class Sys", "|I", "type"}, {"new @4:class [I", "|I", "missing"}, {"new @4:class None", "|@4", "missing"}})
}

func TestCast(t *testing.T) { // P11.2, the table: checkcast, instanceof
	holds(t, usual, []example{
		{"checkcast:class A", "|I LObject;", "|I LA;"}, {"checkcast:class A", "|N", "|LA;"}, {"checkcast:class A", "|[I", "|LA;"}, {"checkcast:class A", "|LF;", "|LA;"}, {"checkcast:class [I", "|LObject;", "|[I"}, {"checkcast:class [[[[LA;", "|N", "|[[[[LA;"}, {"checkcast:class [LObject;", "|N", "|[LObject;"}, {"checkcast:class [[LDivError;", "|N", "|[[LDivError;"}, {"checkcast:class Sys", "|N", "|LSys;"},
		{"checkcast:class A", "|I", "type"}, {"checkcast:class A", "|@0", "type"}, {"checkcast:class A", "|this", "type"}, {"checkcast:class A", "|T", "type"}, {"checkcast:class A", "|", "depth"}, {"checkcast:class None", "|N", "missing"}, {"checkcast:class None", "|", "missing"}, {"checkcast:class [LNone;", "|N", "missing"}, {"checkcast:class [LNone;", "|[LNone;", "missing"}, {"checkcast:class [[LNone;", "|I", "missing"}, {"checkcast:class [LNone;", "|", "missing"}, {"checkcast:class LA;", "|N", "missing"}, {"checkcast:text A", "|I", "missing"},
		{"instanceof:class A", "|J LObject;", "|J I"}, {"instanceof:class [I", "|N", "|I"}, {"instanceof:class [LA;", "|N", "|I"}, {"instanceof:class [LSys;", "|N", "|I"}, {"instanceof:class F", "|[I", "|I"},
		{"instanceof:class A", "|I", "type"}, {"instanceof:class A", "|@0", "type"}, {"instanceof:class A", "|this", "type"}, {"instanceof:class A", "|", "depth"}, {"instanceof:class None", "|N", "missing"}, {"instanceof:class None", "|", "missing"}, {"instanceof:class [LNone;", "|N", "missing"}, {"instanceof:class [[[[LNone;", "|I", "missing"}, {"instanceof:class [LNone;", "|", "missing"}, {"instanceof:method A v ()V", "|I", "missing"},
	})
}

func TestConstantsAtEnds(t *testing.T) { // P11.2, P11.3: constants at the first place of the pool, and at the last
	lay := func(c api.Const) []api.Const { // main's name and descriptor at 2 and 3, the class at 5, the field A.s of I at 12
		utf := func(s string) api.Const { return api.Const{Tag: api.CUtf8, Text: s} }
		return []api.Const{{}, c, utf("main"), utf("()V"), utf("A"), {Tag: api.CClass, A: 4}, utf("Object"), {Tag: api.CClass, A: 6}, utf("Code"), utf("s"), utf("I"), {Tag: api.CName, A: 9, B: 10}, {Tag: api.CField, A: 5, B: 11}, {Tag: api.CName, A: 2, B: 3}, c}
	}
	for _, c := range []struct {
		c     api.Const
		instr string
		want  string
	}{
		{api.Const{Tag: api.CInt, N: 1}, "ldc", "|I"}, {api.Const{Tag: api.CLong, N: 1}, "ldc2_w", "|J"}, {api.Const{Tag: api.CField, A: 5, B: 11}, "getstatic", "|I"}, {api.Const{Tag: api.CMethod, A: 5, B: 13}, "invokestatic", "|"}, {api.Const{Tag: api.CClass, A: 4}, "new", "|@0"},
	} {
		p, e := link.Build([]api.Class{{Pool: lay(c.c), This: 5, Super: 7, Fields: []api.Field{{Flags: api.Static, Name: 9, Desc: 10}}, Methods: []api.Method{{Flags: api.Static, Name: 2, Desc: 3, Stack: 1, Code: []byte{177}}}}})
		if e != api.OK {
			t.Fatalf("Build: %d", e)
		}
		x, _ := rules.At(p, firstOwn, 0)
		for _, a := range []int{-1, 0, 1, 14, 15, 16} {
			if a == 1 || a == 14 {
				gives(t, x, api.Instr{Op: op(c.instr), A: a}, api.Frame{}, frameOf(c.want), api.OK)
			} else {
				gives(t, x, api.Instr{Op: op(c.instr), A: a}, api.Frame{}, api.Frame{}, api.ErrMissing)
			}
			_, e := x.Type(a)
			if want := (a == 1 || a == 14) && c.instr == "new"; want != (e == api.OK) {
				t.Errorf("Type(%d): %d", a, e)
			}
		}
	}
}

func TestShortForms(t *testing.T) { // P11.2: what is no plain instruction, as the plain one that it is made
	x := usual.place()
	f := frameOf("I J LA; I N this @3|I J")
	short := map[string]string{"iconst_m1": "sipush -1", "lconst_1": "lconst_0 1", "bipush": "sipush"}
	for n := range 6 {
		short["iconst_"+string(rune('0'+n))] = "sipush"
	}
	for _, base := range strings.Fields("iload lload aload istore lstore astore") {
		for n := range 4 {
			c := string(rune('0' + n))
			short[base+"_"+c] = base + " " + c
		}
	}
	if len(short) != 33 {
		t.Fatalf("%d short forms", len(short))
	}
	for name, plain := range short {
		for _, g := range []api.Frame{f, {}, frameOf("J J J J|N"), frameOf("I I I I|I"), frameOf("N N N N|J"), frameOf("I|I"), frameOf("I J LA;|N")} {
			for _, a := range []int{0, 1, 5, -1, 99} { // which does not count
				want, e := x.Step(instrOf(plain), g)
				gives(t, x, api.Instr{Op: op(name), A: a, B: a, Size: a, At: a}, g, want, e)
			}
		}
	}
	holds(t, usual, []example{{"iload_3", "I J N I|", "I J N I|I"}, {"iload_1", "I J|", "type"}, {"aload_2", "I J LA;|", "I J LA;|LA;"}, {"lstore_3", "I I I I|J", "I I I J|"}, {"istore_0", "J|I", "I|"}, {"lload_1", "I J|", "I J|J"}, {"astore_1", "I I|N", "I N|"}, {"astore_2", "I I|N", "local"}, {"lconst_1", "|", "|J"}, {"iconst_5", "|", "|I"}})
}

func TestNoCode(t *testing.T) { // P11.2: an Op of none
	x := usual.place()
	for _, o := range append(ends(), 11, 12, 13, 14, 15, 19, 23, 24, 48, 88, 91, 92, 98, 134, 168, 169, 171, 174, 185, 186, 196, 197, 200, 202, 255, 256, 256+96, 1<<16+87, 1<<32+87, -87) {
		if ops.Name(o) != "" {
			continue // a code, beside the ends of what else there is
		}
		for _, f := range []api.Frame{{}, frameOf("I J|I I"), frameOf("|I I I I I I I I I I I")} {
			gives(t, x, api.Instr{Op: o, A: at("class A")}, f, api.Frame{}, api.ErrType)
			gives(t, x, api.Instr{Op: o, A: 1 << 20}, f, api.Frame{}, api.ErrType)
		}
	}
}
