package verify_test

import (
	"bytes"
	"fmt"
	"math"
	"slices"
	"strconv"
	"strings"
	"testing"

	"understudy/api"
	"understudy/class"
	"understudy/link"
	"understudy/maps"
	"understudy/ops"
	"understudy/verify"
)

// firstOwn is the number of the list's first class, tested the place in it of the method that a test hands in.
const (
	firstOwn = 13
	tested   = 2
)

// spec is what a class is to be: fields are a name and a descriptor, with + ahead of what is static; methods are texts.
//
// A method's text has parts, each behind a semicolon. The first one is its name (with + ahead of what is static), its descriptor, Stack and Locals. Further ones are instructions, with labels (and a colon behind each) ahead of them, or:
//
//	code ..                      bytes of code, in base 16
//	map place locals | stack     a map, in any order
//	maps ..                      bytes of maps, in base 16, instead of all of these
//	trap from to handler class   a trap (without a class: of all)
//
// A place is a label, or a number; end is behind the code. In descriptors ~ stands for the semicolon. Types are told by T, I, J, N, this, @ with the place of a new, a class's name, and [ ahead of I, J, a class's name.
type spec struct {
	name, super     string
	fields, methods []string
}

// family is the list of the tests' program: B is below A, F below E, that below Throwable. All is right with it but for what more a test has A have.
func family(more ...string) []spec {
	begin := func(super string) string {
		return "<init> ()V 1 1; aload_0; invokespecial " + super + ".<init>()V; return"
	}
	return []spec{
		{"A", "Object", []string{"+s I", "+l J", "+t LA;", "f I", "h LA;"}, append([]string{"+main ()V 0 0; return", begin("Object")}, more...)},
		{"B", "A", nil, []string{begin("A"), "+n (IJ)LB~ 1 3; aconst_null; areturn"}},
		{"E", "Throwable", nil, []string{begin("Throwable")}},
		{"F", "E", nil, []string{begin("E"), "v ()V 0 1; return"}},
	}
}

// maker lays the constants of a class, and with them its members.
type maker struct{ pool []api.Const }

// lay answers the place of c, which is laid if it is not there.
func (m *maker) lay(c api.Const) int {
	if n := slices.Index(m.pool, c); n > 0 {
		return n
	}
	m.pool = append(m.pool, c)
	return len(m.pool) - 1
}

// text and class lay what they tell.
func (m *maker) text(s string) int { return m.lay(api.Const{Tag: api.CUtf8, Text: s}) }

func (m *maker) class(s string) int { return m.lay(api.Const{Tag: api.CClass, A: m.text(s)}) }

// member lays a field A.f:I or a method A.m()V.
func (m *maker) member(s string) int {
	tag := api.CField
	class, rest, _ := strings.Cut(s, ".")
	name, desc, isField := strings.Cut(rest, ":")
	if !isField {
		tag = api.CMethod
		name, desc, _ = strings.Cut(rest, "(")
		desc = "(" + desc
	}
	return m.lay(api.Const{Tag: tag, A: m.class(class), B: m.lay(api.Const{Tag: api.CName, A: m.text(name), B: m.text(desc)})})
}

// numberOf reads a number.
func numberOf(s string) int {
	n, e := strconv.Atoi(s)
	if e != nil {
		panic(s)
	}
	return n
}

// bytesOf reads bytes in base 16.
func bytesOf(words []string) []byte {
	b := []byte{}
	for _, w := range words {
		n, e := strconv.ParseUint(w, 16, 8)
		if e != nil {
			panic(w)
		}
		b = append(b, byte(n))
	}
	return b
}

// codes are the codes by their names.
var codes = func() map[string]int {
	m := map[string]int{}
	for op := range 256 {
		if n := ops.Name(op); n != "" {
			m[n] = op
		}
	}
	return m
}()

// op answers the code of that name.
func op(name string) int {
	n, isThere := codes[name]
	if !isThere {
		panic(name)
	}
	return n
}

// part is an instruction of a method's text: its words, and where it begins; or bytes.
type part struct {
	at    int
	words []string
}

// size tells how many bytes the part has.
func (x part) size() int {
	if x.words[0] == "code" {
		return len(x.words) - 1
	}
	shape, _ := ops.Shape(op(x.words[0]))
	return map[byte]int{'-': 1, 'b': 2, 'u': 2, 's': 3, 'c': 3, 't': 3, 'i': 3}[shape]
}

// maker and the labels of a method's text read what is left of it.
type reader struct {
	*maker
	labels map[string]int
}

// place reads a place.
func (r reader) place(s string) int {
	if n, isLabel := r.labels[s]; isLabel {
		return n
	}
	return numberOf(s)
}

// typeOf reads a type, and lays the class that it names.
func (r reader) typeOf(w string) api.Type {
	switch w {
	case "T":
		return api.Type{K: api.KTop}
	case "I":
		return api.Type{K: api.KInt}
	case "J":
		return api.Type{K: api.KLong}
	case "N":
		return api.Type{K: api.KNull}
	case "this":
		return api.Type{K: api.KThis}
	}
	if label, isNew := strings.CutPrefix(w, "@"); isNew {
		return api.Type{K: api.KNew, At: r.place(label)}
	}
	name := strings.TrimLeft(w, "[")
	dims := len(w) - len(name)
	switch {
	case dims == 0:
		r.class(name)
		return api.Type{K: api.KRef, Name: name}
	case name == "I" || name == "J":
		r.class(w)
		return api.Type{K: api.KArray, Dims: dims, Elem: map[string]int{"I": api.KInt, "J": api.KLong}[name]}
	}
	r.class(w[:dims] + "L" + name + ";")
	return api.Type{K: api.KArray, Dims: dims, Elem: api.KRef, Name: name}
}

// frameOf reads a frame.
func (r reader) frameOf(words []string) api.Frame {
	var f api.Frame
	l := &f.Locals
	for _, w := range words {
		if w == "|" {
			l = &f.Stack
			continue
		}
		*l = append(*l, r.typeOf(w))
	}
	f.Fresh = slices.Contains(f.Locals, api.Type{K: api.KThis})
	return f
}

// code answers the bytes of the part.
func (r reader) code(x part) []byte {
	if x.words[0] == "code" {
		return bytesOf(x.words[1:])
	}
	i := api.Instr{At: x.at, Op: op(x.words[0])}
	shape, _ := ops.Shape(i.Op)
	rest := x.words[1:]
	switch {
	case len(rest) > 0 && rest[0][0] == '#':
		i.A = numberOf(rest[0][1:])
	case shape == 't':
		i.A = r.place(rest[0])
	case x.words[0] == "ldc":
		i.A = r.lay(api.Const{Tag: api.CInt, N: int64(numberOf(rest[0]))})
	case x.words[0] == "ldc2_w":
		i.A = r.lay(api.Const{Tag: api.CLong, N: int64(numberOf(rest[0]))})
	case shape == 'c' && strings.Contains(rest[0], "."):
		i.A = r.member(rest[0])
	case shape == 'c':
		i.A = r.class(rest[0])
	case shape == 'i':
		i.B = numberOf(rest[1])
		fallthrough
	case shape != '-':
		i.A = numberOf(rest[0])
	}
	b, e := ops.Encode(i)
	if e != api.OK {
		panic(fmt.Sprint(x, e))
	}
	return b
}

// trapOf reads a trap.
func (r reader) trapOf(words []string) api.Trap {
	t := api.Trap{From: r.place(words[0]), To: r.place(words[1]), Handler: r.place(words[2])}
	if len(words) > 3 {
		t.Type = r.class(words[3])
	}
	return t
}

// partsOf cuts a method's text behind its head into instructions and all else, and tells the labels.
func partsOf(l []string) (code []part, rest [][]string, labels map[string]int) {
	labels = map[string]int{}
	at := 0
	for _, s := range l {
		words := strings.Fields(strings.ReplaceAll(s, "~", ";"))
		for len(words) > 0 && strings.HasSuffix(words[0], ":") {
			labels[strings.Trim(words[0], ":")] = at
			words = words[1:]
		}
		switch {
		case len(words) == 0:
		case slices.Contains([]string{"map", "maps", "trap"}, words[0]):
			rest = append(rest, words)
		default:
			x := part{at, words}
			code = append(code, x)
			at += x.size()
		}
	}
	labels["end"] = at
	return code, rest, labels
}

// method answers the method of that text.
func (m *maker) method(text string) api.Method {
	l := strings.Split(text, ";")
	head := strings.Fields(strings.ReplaceAll(l[0], "~", ";"))
	name, isStatic := strings.CutPrefix(head[0], "+")
	x := api.Method{Name: m.text(name), Desc: m.text(head[1]), Stack: numberOf(head[2]), Locals: numberOf(head[3])}
	if isStatic {
		x.Flags = api.Static
	}
	code, rest, labels := partsOf(l[1:])
	r := reader{m, labels}
	for _, c := range code {
		x.Code = append(x.Code, r.code(c)...)
	}
	var frames []api.Map
	for _, words := range rest {
		switch words[0] {
		case "map":
			frames = append(frames, api.Map{At: r.place(words[1]), Frame: r.frameOf(words[2:])})
		case "maps":
			x.Maps = bytesOf(words[1:])
		case "trap":
			x.Traps = append(x.Traps, r.trapOf(words[1:]))
		}
	}
	slices.SortFunc(frames, func(a, b api.Map) int { return a.At - b.At })
	if len(frames) > 0 {
		b, e := maps.Encode(m.pool, frames)
		if e != api.OK {
			panic(fmt.Sprint(text, ": ", e))
		}
		x.Maps = b
	}
	return x
}

// class answers the class that s is to be.
func (s spec) class() api.Class {
	m := &maker{pool: make([]api.Const, 1)}
	m.text("Code")
	m.text("StackMapTable")
	c := api.Class{This: m.class(s.name), Super: m.class(s.super)}
	for _, f := range s.fields {
		name, desc, _ := strings.Cut(f, " ")
		x := api.Field{Name: m.text(strings.Trim(name, "+")), Desc: m.text(desc)}
		if name[0] == '+' {
			x.Flags = api.Static
		}
		c.Fields = append(c.Fields, x)
	}
	for _, text := range s.methods {
		c.Methods = append(c.Methods, m.method(text))
	}
	c.Pool = m.pool
	return c
}

// classesOf answers the classes that all of l are to be.
func classesOf(l []spec) []api.Class {
	var classes []api.Class
	for _, s := range l {
		classes = append(classes, s.class())
	}
	return classes
}

// filesOf answers the files of the classes.
func filesOf(t testing.TB, l []api.Class) [][]byte {
	t.Helper()
	var files [][]byte
	for _, c := range l {
		b, e := class.Encode(c)
		if e != api.OK {
			t.Fatalf("Encode: %d", e)
		}
		files = append(files, b)
	}
	return files
}

// build answers the program of the classes.
func build(t testing.TB, l []api.Class) *link.Program {
	t.Helper()
	p, e := link.Build(l)
	if e != api.OK {
		t.Fatalf("Build: %d", e)
	}
	return p
}

// tells asks that Program of p answers the class, the method and the error, and each time the same.
func tells(t *testing.T, p *link.Program, class, method int, e api.Errno) {
	t.Helper()
	for range 2 {
		if c, m, err := verify.Program(p); c != class || m != method || err != e {
			t.Errorf("Program: %d, %d, %d; want %d, %d, %d", c, m, err, class, method, e)
		}
	}
}

// loads asks that Load of the files answers a program, or the error.
func loads(t *testing.T, files [][]byte, e api.Errno) *link.Program {
	t.Helper()
	before := cloneFiles(files)
	p, err := verify.Load(files)
	if err != e || (p != nil) != (e == api.OK) {
		t.Errorf("Load: %v, %d; want %d", p != nil, err, e)
	}
	if !slices.EqualFunc(files, before, bytes.Equal) {
		t.Errorf("Load changed the files")
	}
	return p
}

// cloneFiles answers files that share nothing with l.
func cloneFiles(l [][]byte) [][]byte {
	var files [][]byte
	for _, b := range l {
		files = append(files, bytes.Clone(b))
	}
	return files
}

// short answers s, as far as it is short.
func short(s string) string { return s[:min(len(s), 400)] }

// gives asks what Method answers of the method of that text, which A has beside its own; that Program and Load tell the same; and that a reading of the chapter by hand does.
func gives(t *testing.T, text string, e api.Errno) {
	t.Helper()
	l := classesOf(family(text))
	p := build(t, l)
	for range 2 {
		if got := verify.Method(p, firstOwn, tested); got != e {
			t.Errorf("%s\nMethod: %d, want %d", short(text), got, e)
		}
	}
	if got := byHand(p, l, firstOwn, tested); got != e {
		t.Errorf("%s\nby hand: %d, want %d", short(text), got, e)
	}
	if e == api.OK {
		tells(t, p, -1, -1, api.OK)
	} else {
		tells(t, p, firstOwn, tested, e)
	}
	loads(t, filesOf(t, l), e)
}

// example is a method's text, and what is wrong with it.
type example struct {
	text string
	e    api.Errno
}

// give asks for all of the examples, each behind that head: a name, a descriptor, Stack and Locals.
func give(t *testing.T, head string, l []example) {
	t.Helper()
	for _, x := range l {
		gives(t, head+"; "+x.text, x.e)
	}
}

// ends are numbers at both ends of what there is, and beside them.
func ends() []int {
	var l []int
	for _, n := range []int{0, firstOwn, 1 << 4, 1 << 6, 1 << 8, 1 << 12, 1 << 15, 1 << 16, 1 << 31, 1 << 32, 1 << 62} {
		for d := -3; d <= 3; d++ {
			l = append(l, n+d, -n+d)
		}
	}
	return append(l, math.MaxInt, math.MaxInt-1, math.MinInt, math.MinInt+1)
}
