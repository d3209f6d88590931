package rules_test

import (
	"slices"
	"strings"

	"understudy/api"
	"understudy/ops"
)

// table is the chapter's table: by each plain instruction what is done, one behind the other. A letter tells what is done, the rest of the word to what:
//
//	?..  what must stand at n, so that it is told ahead of all (n of newarray in its turn)
//	-..  the last on the stack must be such, and goes
//	+..  that is pushed
//	l..  the local n must be such
//	=..  the local n is that
//	r..  what the method answers must be such
//
// I, J, N, T are types; b a begun one, r a reference, x and y any, [.. null or an array of such; %x is what was told x. Of the member at n, f is its type, * what it takes, c the class that is named, m what it answers; t is the type at n.
const table = `
nop
aconst_null +N
sipush +I
lconst_0 +J
ldc ?int +I
ldc2_w ?long +J
iload lI +%x
lload lJ +%x
aload lr +%x
istore -I =%x
lstore -J =%x
astore -r =%x
iaload -I -[I +I
laload -I -[J +J
aaload -I -[r +%x
iastore -I -I -[I
lastore -J -I -[J
aastore -b -I -[r
pop -x
dup -x +%x +%x
dup_x1 -y -x +%y +%x +%y
swap -y -x +%y +%x
iadd -I -I +I
isub -I -I +I
imul -I -I +I
idiv -I -I +I
irem -I -I +I
iand -I -I +I
ior -I -I +I
ixor -I -I +I
ladd -J -J +J
lsub -J -J +J
lmul -J -J +J
ldiv -J -J +J
lrem -J -J +J
land -J -J +J
lor -J -J +J
lxor -J -J +J
ineg -I +I
lneg -J +J
ishl -I -I +I
ishr -I -I +I
iushr -I -I +I
lshl -I -J +J
lshr -I -J +J
lushr -I -J +J
iinc lI
i2l -I +J
l2i -J +I
lcmp -J -J +I
ifeq -I
ifne -I
iflt -I
ifge -I
ifgt -I
ifle -I
if_icmpeq -I -I
if_icmpne -I -I
if_icmplt -I -I
if_icmpge -I -I
if_icmpgt -I -I
if_icmple -I -I
if_acmpeq -b -b
if_acmpne -b -b
ifnull -b
ifnonnull -b
goto
ireturn rI -m
lreturn rJ -m
areturn rR -m
return rV
getstatic ?static +f
putstatic ?static -f
getfield ?field -c +f
putfield ?field -f -c
invokestatic ?staticMethod -* +m
invokevirtual ?method -* -c +m
invokespecial ?init -* !
new ?type ?class @
newarray #n -I +#
anewarray ?type -I +[
arraylength -[ +I
athrow -Throwable
checkcast ?type -b +t
instanceof ?type -b +I
monitorenter -b
monitorexit -b`

// ruleOf are the table's rows by the names of the plain instructions.
var ruleOf = func() map[string][]string {
	m := map[string][]string{}
	for line := range strings.Lines(strings.TrimSpace(table)) {
		words := strings.Fields(line)
		m[words[0]] = words[1:]
	}
	return m
}()

// plainOf answers the name of the plain instruction, and its A.
func plainOf(i api.Instr) (string, int) {
	name := ops.Name(i.Op)
	base, last, _ := strings.Cut(name, "_")
	isDigit := len(last) == 1 && last[0] >= '0' && last[0] <= '9'
	switch {
	case base == "iconst" || name == "bipush":
		return "sipush", i.A
	case base == "lconst":
		return "lconst_0", i.A
	case isDigit:
		return base, int(last[0] - '0')
	}
	return name, i.A
}

// superOf are the supers of all classes of the program.
var superOf = func() map[string]string {
	m := map[string]string{"Throwable": "Object", "Thread": "Object", "Sys": "Object"}
	for _, s := range strings.Fields("NullError BoundsError CastError DivError OwnerError MemoryError DepthError SizeError StoreError") {
		m[s] = "Throwable"
	}
	for _, s := range family() {
		m[s.name] = s.super
	}
	return m
}()

// isClass tells whether the program has the class.
func isClass(name string) bool { return name == "Object" || superOf[name] != "" }

// above answers the class and all above it.
func above(name string) []string {
	var l []string
	for ; isClass(name); name = superOf[name] {
		l = append(l, name)
	}
	return l
}

// isBelow tells whether a is b, or below it. All classes are below the empty name, which stands for Object's super (chapter 8).
func isBelow(a, b string) bool {
	return a == b || slices.Contains(above(a), b) || b == "" && isClass(a)
}

// assignByHand answers what kind.Assign answers, as the chapter tells it.
func assignByHand(a, b api.Type) bool {
	switch {
	case b.K == api.KTop || a == b:
		return true
	case a.K == api.KNull:
		return b.K == api.KRef || b.K == api.KArray || b.K == api.KNull
	case a.K == api.KRef && b.K == api.KRef:
		return isBelow(a.Name, b.Name)
	case a.K == api.KArray && b.K == api.KRef:
		return b.Name == "Object"
	case a.K == api.KArray && b.K == api.KArray && a.Dims == b.Dims:
		return a.Elem == b.Elem && (a.Elem != api.KRef || isBelow(a.Name, b.Name))
	case a.K == api.KArray && b.K == api.KArray && a.Dims > b.Dims:
		return b.Elem == api.KRef && b.Name == "Object"
	}
	return false
}

// builtMethods are the methods of classes that are built in.
var builtMethods = map[string][]string{
	"Object": {"<init> ()V", "wait ()V", "notify ()V", "notifyAll ()V"}, "Throwable": {"<init> ()V"}, "Thread": {"<init> ()V", "start ()V", "join ()V", "run ()V"},
	"Sys": {"+read ()I", "+clock ()J", "+write (J)V"}, "DivError": {"<init> ()V"},
}

// membersOf answers the fields or the methods of a class.
func membersOf(class string, isField bool) []string {
	for _, s := range family() {
		if s.name == class && isField {
			return s.fields
		} else if s.name == class {
			return s.methods
		}
	}
	if isField {
		return nil
	}
	return builtMethods[class]
}

// finds tells whether one of the classes has the member, and whether the first that has it has it static.
func finds(classes []string, isField bool, name, desc string) (bool, bool) {
	for _, c := range classes {
		for _, m := range membersOf(c, isField) {
			if strings.Trim(m, "+") == name+" "+desc {
				return true, m[0] == '+'
			}
		}
	}
	return false, false
}

// descOf reads a method's descriptor.
func descOf(desc string) ([]api.Type, api.Type) {
	inside, back, _ := strings.Cut(desc[1:], ")")
	var l []api.Type
	for inside != "" {
		n := len(inside) - len(strings.TrimLeft(inside, "["))
		if inside[n] == 'L' {
			n += strings.Index(inside[n:], ";")
		}
		l = append(l, typesOf(inside[:n+1])...)
		inside = inside[n+1:]
	}
	return l, typesOf(back)[0]
}

// hand goes through a rule by hand: the first error stays.
type hand struct {
	at     spot
	a      int // n
	place  int // where the instruction begins
	f      api.Frame
	x, y   api.Type
	class  string     // that is named
	takes  []api.Type // of the member that is named
	value  api.Type   // of it, too
	typeAt api.Type
	e      api.Errno
}

// ask asks that something is right, else it is that error.
func (h *hand) ask(right bool, e api.Errno) bool {
	if h.e == api.OK && !right {
		h.e = e
	}
	return h.e == api.OK
}

// textOf answers the text of the constant of that label's kind at n.
func (h *hand) textOf(label string) (string, bool) {
	for s, n := range constants.at {
		if n == h.a && strings.HasPrefix(s, label+" ") {
			return strings.TrimPrefix(strings.TrimPrefix(s, label+" "), "again "), true
		}
	}
	return "", false
}

// typeByHand answers the type of a class's text, if all that it names is in the program.
func typeByHand(s string) (api.Type, bool) {
	switch s {
	case "A", "B", "C", "E", "F", "G", "Object", "Throwable", "Thread", "Sys", "DivError":
		return api.Type{K: api.KRef, Name: s}, true
	case "[I", "[J", "[[[I", "[[[[I", "[LA;", "[[LB;", "[[[LA;", "[[[[LA;", "[LG;", "[LObject;", "[LSys;", "[[LDivError;":
		return typesOf(s)[0], true
	}
	return api.Type{}, false
}

// need asks for what must stand at n.
func (h *hand) need(what string) {
	right := false
	switch what {
	case "int", "long":
		right = h.a == constants.at[what]
	case "type":
		s, _ := h.textOf("class")
		h.typeAt, right = typeByHand(s)
	case "class":
		right = h.typeAt.K == api.KRef
	case "static", "field":
		right = h.needMember("field", what == "static")
	default:
		right = h.needMember("method", what == "staticMethod")
		s, _ := h.textOf("method")
		if f := strings.Fields(s); right && (f[1] == "<init>") != (what == "init") {
			right = false
		}
	}
	h.ask(right, api.ErrMissing)
}

// needMember asks for the member at n.
func (h *hand) needMember(label string, isStatic bool) bool {
	s, isThere := h.textOf(label)
	if !isThere {
		return false
	}
	f := strings.Fields(s)
	h.class = f[0]
	classes := above(f[0])
	if f[1] == "<init>" { // of the class alone
		classes = classes[:min(1, len(classes))]
	}
	found, is := finds(classes, label == "field", f[1], f[2])
	if label == "field" && found {
		h.value = typesOf(f[2])[0]
	} else if found {
		h.takes, h.value = descOf(f[2])
	}
	return found && is == isStatic
}

// pop takes the last from the stack.
func (h *hand) pop() api.Type {
	n := len(h.f.Stack)
	if !h.ask(n > 0, api.ErrDepth) {
		return api.Type{}
	}
	t := h.f.Stack[n-1]
	h.f.Stack = h.f.Stack[:n-1]
	return t
}

// isOf tells whether t is such as the word says.
func (h *hand) isOf(t api.Type, word string) bool {
	switch word {
	case "I":
		return t == api.Type{K: api.KInt}
	case "J":
		return t == api.Type{K: api.KLong}
	case "R":
		return t.K == api.KRef || t.K == api.KArray
	case "V":
		return t.K == api.KVoid && !h.f.Fresh
	case "b":
		return t.K == api.KNull || t.K == api.KRef || t.K == api.KArray
	case "r":
		return t.K == api.KNull || t.K == api.KRef || t.K == api.KArray || t.K == api.KNew || t.K == api.KThis
	case "x", "y":
		return true
	case "[":
		return t.K == api.KNull || t.K == api.KArray
	case "[I", "[J":
		return t.K == api.KNull || t.K == api.KArray && t.Dims == 1 && (t.Elem == api.KInt && word == "[I" || t.Elem == api.KLong && word == "[J")
	case "[r":
		return t.K == api.KNull || t.K == api.KArray && (t.Dims > 1 || t.Elem == api.KRef)
	case "f", "m":
		return assignByHand(t, h.value)
	case "c":
		return assignByHand(t, api.Type{K: api.KRef, Name: h.class})
	}
	return assignByHand(t, api.Type{K: api.KRef, Name: word})
}

// popThat takes the last from the stack, which must be as the word says.
func (h *hand) popThat(word string) {
	t := h.pop()
	if !h.ask(h.isOf(t, word), api.ErrType) {
		return
	}
	switch {
	case word == "y":
		h.y = t
	case word != "[r" || t.K == api.KNull:
		h.x = t
	case t.Dims > 1:
		h.x = api.Type{K: api.KArray, Dims: t.Dims - 1, Elem: t.Elem, Name: t.Name}
	default:
		h.x = api.Type{K: api.KRef, Name: t.Name}
	}
}

// pushThat pushes what the word says.
func (h *hand) pushThat(word string) {
	t := map[string]api.Type{"I": {K: api.KInt}, "J": {K: api.KLong}, "N": {K: api.KNull}, "%x": h.x, "%y": h.y, "f": h.value, "m": h.value, "t": h.typeAt}[word]
	switch word {
	case "m":
		if t.K == api.KVoid {
			return
		}
	case "#":
		t = map[int]api.Type{10: typesOf("[I")[0], 11: typesOf("[J")[0]}[h.a]
	case "[":
		t = api.Type{K: api.KArray, Dims: h.typeAt.Dims + 1, Elem: h.typeAt.Elem, Name: h.typeAt.Name}
		if h.typeAt.K == api.KRef {
			t.Elem = api.KRef
		}
		h.ask(t.Dims <= api.MaxDims, api.ErrType)
	}
	if h.ask(len(h.f.Stack) < h.at.stack, api.ErrDepth) {
		h.f.Stack = append(h.f.Stack, t)
	}
}

// turn makes all types that are from the type to.
func (h *hand) turn(from, to api.Type) {
	for _, l := range [][]api.Type{h.f.Locals, h.f.Stack} {
		for i := range l {
			if l[i] == from {
				l[i] = to
			}
		}
	}
}

// start is what invokespecial does behind its arguments.
func (h *hand) start() {
	t := h.pop()
	if h.e != api.OK {
		return
	}
	switch {
	case t.K == api.KNew && newsOf[t.At] == h.class:
		h.turn(t, api.Type{K: api.KRef, Name: h.class})
	case t.K == api.KThis && (h.class == h.at.class || h.class == superOf[h.at.class]):
		h.turn(t, api.Type{K: api.KRef, Name: h.at.class})
		h.f.Fresh = false
	default:
		h.ask(false, api.ErrType)
	}
}

// make is what new does behind what must stand at n.
func (h *hand) make() {
	t := api.Type{K: api.KNew, At: h.place}
	h.ask(h.typeAt.Name != "Sys", api.ErrType)
	h.ask(!slices.Contains(h.f.Stack, t), api.ErrType)
	h.turn(t, api.Type{})
	h.x = t
	h.pushThat("%x")
}

// do does what a word of the table says.
func (h *hand) do(word string) {
	rest := word[1:]
	switch word[0] {
	case '?':
		h.need(rest)
	case '#':
		h.ask(h.a == 10 || h.a == 11, api.ErrType)
	case '-':
		if rest == "*" {
			for _, t := range slices.Backward(h.takes) {
				h.ask(assignByHand(h.pop(), t), api.ErrType)
			}
			return
		}
		h.popThat(rest)
	case '+':
		h.pushThat(rest)
	case 'l', '=':
		if !h.ask(h.a >= 0 && h.a < len(h.f.Locals), api.ErrLocal) {
			return
		}
		if word[0] == '=' {
			h.f.Locals[h.a] = h.x
			return
		}
		h.x = h.f.Locals[h.a]
		h.ask(h.isOf(h.x, rest), api.ErrType)
	case 'r':
		_, h.value = descOf(strings.Fields(h.at.method)[1])
		h.ask(h.isOf(h.value, rest), api.ErrType)
	case '!':
		h.start()
	case '@':
		h.make()
	}
}

// stepByHand answers what Step answers at the spot, as the chapter tells it. It takes types as kinds have them alone.
func stepByHand(s spot, i api.Instr, f api.Frame) (api.Frame, api.Errno) {
	name, a := plainOf(i)
	h := &hand{at: s, a: a, place: i.At, f: clone(f)}
	rule, isRule := ruleOf[name]
	h.ask(isRule, api.ErrType)
	for _, word := range rule {
		if h.e == api.OK {
			h.do(word)
		}
	}
	if h.e != api.OK {
		return api.Frame{}, h.e
	}
	return h.f, api.OK
}
