package rules_test

import (
	"fmt"
	"math"
	"slices"
	"strconv"
	"strings"
	"testing"

	"understudy/api"
	"understudy/kind"
	"understudy/link"
	"understudy/ops"
	"understudy/rules"
)

// spec is what a class is to be: its members are a name and a descriptor each, with + ahead of what is static.
type spec struct {
	name, super     string
	fields, methods []string
}

// family is the list of the tests' program: B and C are below A, E below Throwable; members hide one another, and are static in one class and not in another.
func family() []spec {
	return []spec{
		{"A", "Object",
			[]string{"+s I", "+t LA;", "+w J", "f I", "g J", "h LA;", "k [[LB;", "+both I"},
			[]string{"+main ()V", "<init> ()V", "<init> (IJLA;)V", "v ()V", "v (I)I", "w (JLA;[I)LB;", "+y ()V", "+z (IJ)J", "+x (LA;[LA;)[I", "+n ()LNone;", "l ()J"}},
		{"B", "A",
			[]string{"+f I", "+s J", "both I", "m LB;", "o LNone;"},
			[]string{"<init> ()V", "<init> (I)V", "v (I)I", "own ([[J)[LA;", "a ()[[LA;"}},
		{"C", "B", nil, []string{"<init> (J)V", "+u ()I", "+p (IJLA;[I[[LB;LObject;)V"}},
		{"E", "Throwable", nil, []string{"<init> ()V"}},
		{"F", "Object", []string{"f I"}, []string{"<init> ()V", "v ()V"}},
		{"G", "Thread", nil, []string{"<init> ()V", "run ()V"}},
	}
}

// firstOwn is the number of the list's first class.
const firstOwn = 13

// maker lays the constants that all classes have, and tells their places by what they are.
type maker struct {
	pool []api.Const
	at   map[string]int
}

// lay lays c, if it is not there, and answers its place.
func (m *maker) lay(label string, c api.Const) int {
	if _, isThere := m.at[label]; !isThere {
		m.at[label] = len(m.pool)
		m.pool = append(m.pool, c)
	}
	return m.at[label]
}

// text, class, name and member lay what they tell.
func (m *maker) text(s string) int {
	return m.lay("text "+s, api.Const{Tag: api.CUtf8, Text: s})
}

func (m *maker) class(s string) int {
	return m.lay("class "+s, api.Const{Tag: api.CClass, A: m.text(s)})
}

func (m *maker) name(name, desc string) int {
	return m.lay("name "+name+" "+desc, api.Const{Tag: api.CName, A: m.text(name), B: m.text(desc)})
}

func (m *maker) member(tag int, class, name, desc string) int {
	word := map[int]string{api.CField: "field ", api.CMethod: "method "}[tag]
	return m.lay(word+class+" "+name+" "+desc, api.Const{Tag: tag, A: m.class(class), B: m.name(name, desc)})
}

// fieldsAsked and methodsAsked are constants of members: a class, a name and a descriptor each.
var (
	fieldsAsked  = "A s I;A t LA~;A w J;A f I;A g J;A h LA~;A k [[LB~;A both I;B both I;B f I;B s J;B s I;B t LA~;B g J;B m LB~;B o LNone~;C s J;C f I;C g J;C k [[LB~;C m LB~;F f I;A none I;A f J;B h LB~;None f I;Object f I;[I f I;[LA~ g J;Sys s I;A v ()V;G f I"
	methodsAsked = "A <init> ()V;A <init> (IJLA~)V;A v ()V;A v (I)I;A w (JLA~[I)LB~;A y ()V;A z (IJ)J;A x (LA~[LA~)[I;A n ()LNone~;A l ()J;A main ()V;B <init> ()V;B <init> (I)V;B <init> (IJLA~)V;B v (I)I;B v ()V;B own ([[J)[LA~;B a ()[[LA~;B y ()V;B z (IJ)J;C <init> (J)V;C <init> ()V;C u ()I;C p (IJLA~[I[[LB~LObject~)V;C v (I)I;C w (JLA~[I)LB~;C x (LA~[LA~)[I;E <init> ()V;F <init> ()V;F v ()V;G run ()V;G start ()V;G <init> ()V;G join ()V;Object <init> ()V;Object wait ()V;Object notifyAll ()V;A wait ()V;E notify ()V;Thread run ()V;Thread <init> ()V;Throwable <init> ()V;DivError <init> ()V;Sys read ()I;Sys clock ()J;Sys write (J)V;Sys wait ()V;Sys <init> ()V;None v ()V;None <init> ()V;[I wait ()V;[I <init> ()V;[LA~ v ()V;A none ()V;A v (J)I;A <init> (J)V;A f I;F v (I)I"
	classesAsked = "A;B;C;E;F;G;Object;Throwable;Thread;Sys;DivError;None;[I;[J;[[[I;[[[[I;[LA~;[[LB~;[[[LA~;[[[[LA~;[LNone~;[[[[LNone~;[[[[[I;LA~;;()V;[V;A.B;[;I;[[LNone~;[LG~;[LObject~;[LSys~;[[LDivError~;[Lnone~;[LAA~"
)

// parts cuts a list of what is asked. In it ~ stands for the ; of descriptors.
func parts(s string) []string {
	l := strings.Split(s, ";")
	for i := range l {
		l[i] = strings.ReplaceAll(l[i], "~", ";")
	}
	return l
}

// made lays all constants that the tests ask for.
func made() *maker {
	m := &maker{at: map[string]int{}}
	m.lay("none", api.Const{})
	m.text("Code")
	m.lay("int", api.Const{Tag: api.CInt, N: 7})
	m.lay("long", api.Const{Tag: api.CLong, N: 7})
	for _, s := range parts(classesAsked) {
		m.class(s)
	}
	m.lay("class again A", api.Const{Tag: api.CClass, A: m.lay("text again A", api.Const{Tag: api.CUtf8, Text: "A"})})
	for _, s := range parts(fieldsAsked) {
		f := strings.Fields(s)
		m.member(api.CField, f[0], f[1], f[2])
	}
	for _, s := range parts(methodsAsked) {
		f := strings.Fields(s)
		m.member(api.CMethod, f[0], f[1], f[2])
	}
	for _, c := range family() {
		m.class(c.name)
		m.class(c.super)
		for _, s := range slices.Concat(c.fields, c.methods) {
			name, desc, _ := strings.Cut(strings.Trim(s, "+"), " ")
			m.name(name, desc)
		}
	}
	return m
}

// constants are the places of the constants, and the pool.
var constants = made()

// at answers the place of a constant.
func at(label string) int {
	n, isThere := constants.at[label]
	if !isThere {
		panic(label)
	}
	return n
}

// newsOf are the classes that the news in each method's code name, by their places.
var newsOf = map[int]string{0: "A", 3: "B", 6: "C", 9: "E", 12: "F", 15: "Object", 18: "A", 21: "Sys", 24: "None", 27: "DivError", 30: "Throwable"}

// codeOf answers the code of each method: the news, an instruction of a class that is no new, a new of what is no class, and one that is cut off.
func codeOf() []byte {
	code := make([]byte, 33)
	for place, name := range newsOf {
		label := "class " + name
		if place == 18 {
			label = "class again A"
		}
		n := at(label)
		copy(code[place:], []byte{187, byte(n >> 8), byte(n)})
	}
	return append(code, 192, 0, byte(at("class A")), 187, 0, byte(at("int")), 187, 0, byte(at("class [I")), 187, 0)
}

// class answers the class that s is to be, with so much of a stack and of locals for each method.
func (s spec) class(stack, locals int) api.Class {
	c := api.Class{Pool: slices.Clone(constants.pool), This: at("class " + s.name), Super: at("class " + s.super)}
	for _, f := range s.fields {
		name, desc, flags := cut(f)
		c.Fields = append(c.Fields, api.Field{Flags: flags, Name: at("text " + name), Desc: at("text " + desc)})
	}
	for _, f := range s.methods {
		name, desc, flags := cut(f)
		c.Methods = append(c.Methods, api.Method{Flags: flags, Name: at("text " + name), Desc: at("text " + desc), Stack: stack, Locals: locals, Code: codeOf()})
	}
	return c
}

// cut answers the name, the descriptor and the flags of a member.
func cut(member string) (string, string, int) {
	name, desc, _ := strings.Cut(member, " ")
	if strings.HasPrefix(name, "+") {
		return name[1:], desc, api.Static
	}
	return name, desc, 0
}

// programs are the family's programs, by how much of a stack and of locals each method has.
var programs = map[int]*link.Program{}

// program answers the family's program with so much of a stack and of locals for each method.
func program(stack, locals int) *link.Program {
	key := stack<<8 | locals
	if programs[key] == nil {
		var l []api.Class
		for _, s := range family() {
			l = append(l, s.class(stack, locals))
		}
		p, e := link.Build(l)
		if e != api.OK {
			panic(fmt.Sprint("Build: ", e))
		}
		programs[key] = p
	}
	return programs[key]
}

// spot is a method of the family by class, name and descriptor, in a program with so much of a stack.
type spot struct {
	class, method string
	stack         int
}

// place answers the place of the method.
func (s spot) place() *rules.Place {
	for n, c := range family() {
		if c.name == s.class {
			if i := slices.IndexFunc(c.methods, func(m string) bool { return strings.Trim(m, "+") == s.method }); i >= 0 {
				x, e := rules.At(program(s.stack, 9), firstOwn+n, i)
				if x == nil || e != api.OK {
					panic(fmt.Sprint(s, ": ", e))
				}
				return x
			}
		}
	}
	panic(fmt.Sprint(s))
}

// usual is the spot that tests take where nothing else is said.
var usual = spot{"A", "main ()V", 9}

// codes are the codes by their names.
var codes = func() map[string]int {
	m := map[string]int{}
	for op := range 256 {
		if n := ops.Name(op); n != "" {
			m[n] = op
		}
	}
	return m
}()

// op answers the code of that name.
func op(name string) int {
	n, isThere := codes[name]
	if !isThere {
		panic(name)
	}
	return n
}

// typesOf reads types: descriptors, T for KTop, N for KNull, V for KVoid, this, and @ with a place for what new made there.
func typesOf(s string) []api.Type {
	var l []api.Type
	for _, w := range strings.Fields(s) {
		switch {
		case w == "T":
			l = append(l, api.Type{})
		case w == "N":
			l = append(l, api.Type{K: api.KNull})
		case w == "V":
			l = append(l, api.Type{K: api.KVoid})
		case w == "this":
			l = append(l, api.Type{K: api.KThis})
		case w[0] == '@':
			n, e := strconv.Atoi(w[1:])
			if e != nil {
				panic(w)
			}
			l = append(l, api.Type{K: api.KNew, At: n})
		default:
			t, e := kind.Field(w)
			if e != api.OK {
				panic(w)
			}
			l = append(l, t)
		}
	}
	return l
}

// frameOf reads a frame: locals, |, and what is on the stack; ! ahead of it says that it is Fresh.
func frameOf(s string) api.Frame {
	rest, isFresh := strings.CutPrefix(s, "!")
	locals, stack, _ := strings.Cut(rest, "|")
	return api.Frame{Locals: typesOf(locals), Stack: typesOf(stack), Fresh: isFresh}
}

// clone answers a frame that shares nothing with f.
func clone(f api.Frame) api.Frame {
	f.Locals, f.Stack = slices.Clone(f.Locals), slices.Clone(f.Stack)
	return f
}

// same tells whether two frames are the same: nil and empty lists are (P3).
func same(f, g api.Frame) bool {
	return slices.Equal(f.Locals, g.Locals) && slices.Equal(f.Stack, g.Stack) && f.Fresh == g.Fresh
}

// zero tells whether f is the zero frame.
func zero(f api.Frame) bool { return same(f, api.Frame{}) }

// gives asks that x makes want of f by i, or refuses with e, and that f stays.
func gives(t *testing.T, x *rules.Place, i api.Instr, f, want api.Frame, e api.Errno) {
	t.Helper()
	before := clone(f)
	got, err := x.Step(i, f)
	if err != e || !same(got, want) {
		t.Errorf("%s %v of %s: %s, %d; want %s, %d", ops.Name(i.Op), i, show(before), show(got), err, show(want), e)
	}
	if !same(f, before) {
		t.Errorf("%s %v changed %s: %s", ops.Name(i.Op), i, show(before), show(f))
	}
}

// show tells x, as far as it is short.
func show(x any) string {
	s := fmt.Sprintf("%v", x)
	return s[:min(500, len(s))]
}

// ends are numbers at both ends of what there is, and beside them.
func ends() []int {
	var l []int
	for _, n := range []int{0, firstOwn, 1 << 6, 1 << 8, 1 << 10, 1 << 12, 1 << 15, 1 << 16, 1 << 31, 1 << 32, 1 << 62} {
		for d := -2; d <= 2; d++ {
			l = append(l, n+d, -n+d)
		}
	}
	return append(l, math.MaxInt, math.MaxInt-1, math.MinInt, math.MinInt+1)
}
