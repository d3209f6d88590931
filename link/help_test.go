package link_test

import (
	"bytes"
	"fmt"
	"math"
	"regexp"
	"slices"
	"strings"
	"testing"

	"understudy/api"
	"understudy/kind"
	"understudy/link"
)

// mem is a field or a method that a class is to have.
type mem struct {
	name, desc string
	flags      int
}

// spec is what a class is to be. Spare is how many constants stand ahead of those that it needs.
type spec struct {
	name, super     string
	fields, methods []mem
	spare           int
}

// builtText is what is built in, as the chapter tells it; + is ahead of what is static.
const builtText = `Object - <init>()V wait()V notify()V notifyAll()V
Throwable Object <init>()V
Thread Object <init>()V start()V join()V run()V
Sys Object +read()I +clock()J +write(J)V
NullError Throwable <init>()V
BoundsError Throwable <init>()V
CastError Throwable <init>()V
DivError Throwable <init>()V
OwnerError Throwable <init>()V
MemoryError Throwable <init>()V
DepthError Throwable <init>()V
SizeError Throwable <init>()V
StoreError Throwable <init>()V`

// firstOwn is the number of the list's first class.
const firstOwn = 13

// builtSpecs answers what is built in.
func builtSpecs() []spec {
	var l []spec
	for line := range strings.Lines(builtText) {
		words := strings.Fields(line)
		s := spec{name: words[0], super: strings.Trim(words[1], "-")}
		for _, w := range words[2:] {
			full, isStatic := strings.CutPrefix(w, "+")
			name, desc, _ := strings.Cut(full, "(")
			m := mem{name: name, desc: "(" + desc}
			if isStatic {
				m.flags = api.Static
			}
			s.methods = append(s.methods, m)
		}
		l = append(l, s)
	}
	return l
}

// utf answers a text.
func utf(s string) api.Const { return api.Const{Tag: api.CUtf8, Text: s} }

// class answers the class that s is to be. Each method differs from all others.
func (s spec) class() api.Class {
	var c api.Class
	put := func(x api.Const) int {
		c.Pool = append(c.Pool, x)
		return len(c.Pool) - 1
	}
	put(api.Const{})
	for range s.spare {
		put(api.Const{Tag: api.CInt, N: 7})
	}
	put(utf("Code"))
	put(utf("StackMapTable"))
	c.Super = put(api.Const{Tag: api.CClass, A: put(utf(s.super))})
	c.This = put(api.Const{Tag: api.CClass, A: put(utf(s.name))})
	for _, f := range s.fields {
		c.Fields = append(c.Fields, api.Field{Flags: f.flags, Name: put(utf(f.name)), Desc: put(utf(f.desc))})
	}
	for i, m := range s.methods {
		c.Methods = append(c.Methods, api.Method{
			Flags: m.flags, Name: put(utf(m.name)), Desc: put(utf(m.desc)), Stack: i % 64, Locals: len(s.methods) % 64, Code: []byte{byte(i), 0, 177},
			Traps: []api.Trap{{From: 0, To: 3, Handler: i % 3, Type: c.This}, {From: 1, To: 2}}, Maps: []byte{0, byte(i)},
		})
	}
	return c
}

// classesOf answers the classes that all of l are to be.
func classesOf(l []spec) []api.Class {
	var classes []api.Class
	for _, s := range l {
		classes = append(classes, s.class())
	}
	return classes
}

// clone answers a class that shares nothing with c.
func clone(c api.Class) api.Class {
	c.Pool, c.Fields, c.Methods = slices.Clone(c.Pool), slices.Clone(c.Fields), slices.Clone(c.Methods)
	for i := range c.Methods {
		m := &c.Methods[i]
		m.Code, m.Traps, m.Maps = bytes.Clone(m.Code), slices.Clone(m.Traps), bytes.Clone(m.Maps)
	}
	return c
}

// cloneAll answers classes that share nothing with l.
func cloneAll(l []api.Class) []api.Class {
	var m []api.Class
	for _, c := range l {
		m = append(m, clone(c))
	}
	return m
}

// sameMethod tells whether two methods are the same: nil and empty lists are (P3).
func sameMethod(m, n api.Method) bool {
	return m.Flags == n.Flags && m.Name == n.Name && m.Desc == n.Desc && m.Stack == n.Stack && m.Locals == n.Locals && bytes.Equal(m.Code, n.Code) && slices.Equal(m.Traps, n.Traps) && bytes.Equal(m.Maps, n.Maps)
}

// same tells whether two classes are the same.
func same(c, d api.Class) bool {
	return c.This == d.This && c.Super == d.Super && slices.Equal(c.Pool, d.Pool) && slices.Equal(c.Fields, d.Fields) && slices.EqualFunc(c.Methods, d.Methods, sameMethod)
}

// What names and descriptors look like, but for how many parameters there are.
const fieldForm = `\[{0,4}(?:I|J|L[^.;\[/<>]+;)`

var (
	nameRight   = regexp.MustCompile(`^[^.;\[/<>]+$`)
	fieldRight  = regexp.MustCompile(`^` + fieldForm + `$`)
	fieldNext   = regexp.MustCompile(fieldForm)
	methodRight = regexp.MustCompile(`^\(((?:` + fieldForm + `)*)\)(` + fieldForm + `|V)$`)
)

// isMethodDesc tells whether s is a method's descriptor.
func isMethodDesc(s string) bool {
	m := methodRight.FindStringSubmatch(s)
	return m != nil && len(fieldNext.FindAllString(m[1], -1)) <= api.MaxParams
}

// model is a program as the chapter tells it: all its classes, those that are built in too.
type model []spec

// modelOf answers the model of a list.
func modelOf(l []spec) model { return append(model(builtSpecs()), l...) }

// find answers the place of the first class of that name, or -1.
func (x model) find(name string) int {
	return slices.IndexFunc(x, func(s spec) bool { return s.name == name })
}

// above answers the numbers of the class n and of those above it. A way that goes round, or out, ends there.
func (x model) above(n int) []int {
	var l []int
	for n >= 0 && !slices.Contains(l, n) {
		l = append(l, n)
		n = x.find(x[n].super)
	}
	return l
}

// areMembersRight tells whether no member of l stands there twice, and each is right.
func areMembersRight(l []mem, isRight func(m mem) bool) bool {
	seen := map[mem]int{}
	for _, m := range l {
		if !isRight(m) {
			return false
		}
		m.flags = 0
		seen[m]++
	}
	return len(seen) == len(l)
}

// isRightClass tells whether what is asked of one class holds of the class n.
func (x model) isRightClass(n int) bool {
	c := x[n]
	if !nameRight.MatchString(c.name) || x.find(c.name) != n || c.super == "Sys" || !slices.Contains(x.above(n), 0) {
		return false
	}
	if !areMembersRight(c.fields, func(m mem) bool { return nameRight.MatchString(m.name) && fieldRight.MatchString(m.desc) }) {
		return false
	}
	return areMembersRight(c.methods, func(m mem) bool {
		if m.name == "<init>" {
			return isMethodDesc(m.desc) && strings.HasSuffix(m.desc, ")V") && m.flags == 0
		}
		return isMethodDesc(m.desc) && nameRight.MatchString(m.name)
	})
}

// agrees tells whether each method of the class n is Static just as all of classes above are.
func (x model) agrees(n int) bool {
	for _, m := range x[n].methods {
		for _, up := range x.above(n) {
			for _, o := range x[up].methods {
				if m.name != "<init>" && o.name == m.name && o.desc == m.desc && o.flags != m.flags {
					return false
				}
			}
		}
	}
	return true
}

// isRight tells whether the list is a right one, if each of its classes is.
func (x model) isRight() bool {
	for n := firstOwn; n < len(x); n++ {
		if !x.isRightClass(n) || !x.agrees(n) {
			return false
		}
	}
	return len(x) > firstOwn && slices.Contains(x[firstOwn].methods, mem{"main", "()V", api.Static})
}

// slotOf answers the slot of the field at that place of the class n: how many values stand ahead of it.
func (x model) slotOf(n, place int) int {
	count := 0
	for other := range x {
		for i, f := range x[other].fields {
			isAhead := other == n && i < place
			if x[n].fields[place].flags == api.Static {
				isAhead = isAhead || other < n
			} else {
				isAhead = isAhead || other != n && slices.Contains(x.above(n), other)
			}
			if isAhead && f.flags == x[n].fields[place].flags {
				count++
			}
		}
	}
	return count
}

// field answers what Field answers.
func (x model) field(class, name, desc string) (api.Member, api.Errno) {
	for _, n := range x.above(x.find(class)) {
		for place, m := range x[n].fields {
			if m.name == name && m.desc == desc {
				return api.Member{Class: n, Place: place, Desc: desc, Static: m.flags == api.Static, Slot: x.slotOf(n, place)}, api.OK
			}
		}
	}
	return api.Member{}, api.ErrMissing
}

// method answers the first method in those classes.
func (x model) method(classes []int, name, desc string) (api.Member, api.Errno) {
	for _, n := range classes {
		for place, m := range x[n].methods {
			if m.name == name && m.desc == desc {
				return api.Member{Class: n, Place: place, Desc: desc, Static: m.flags == api.Static}, api.OK
			}
		}
	}
	return api.Member{}, api.ErrMissing
}

// look answers what Look answers.
func (x model) look(class, name, desc string) (api.Member, api.Errno) {
	if name == "<init>" {
		return api.Member{}, api.ErrMissing
	}
	return x.method(x.above(x.find(class)), name, desc)
}

// own answers what Own answers.
func (x model) own(class, name, desc string) (api.Member, api.Errno) {
	n := x.find(class)
	if n < 0 {
		return api.Member{}, api.ErrMissing
	}
	return x.method([]int{n}, name, desc)
}

// typesOf answers the types of the fields of those classes that are Static, or not.
func (x model) typesOf(classes []int, flags int) []api.Type {
	var l []api.Type
	for _, n := range classes {
		for _, f := range x[n].fields {
			if f.flags == flags {
				t, _ := kind.Field(f.desc)
				l = append(l, t)
			}
		}
	}
	return l
}

// slots answers what Slots answers.
func (x model) slots(n int) []api.Type {
	up := x.above(n)
	slices.Reverse(up)
	return x.typesOf(up, 0)
}

// statics answers what Statics answers.
func (x model) statics() []api.Type {
	var all []int
	for n := range x {
		all = append(all, n)
	}
	return x.typesOf(all, api.Static)
}

// ends are numbers at both ends of what there is, and beside them.
func ends() []int {
	var l []int
	for _, n := range []int{0, firstOwn, 1 << 6, 1 << 8, 1 << 16, 1 << 31, 1 << 32, 1 << 62} {
		for d := -2; d <= 2; d++ {
			l = append(l, n+d, -n+d)
		}
	}
	return append(l, math.MaxInt, math.MaxInt-1, math.MinInt, math.MinInt+1)
}

// numbers are all of classes, and what is none on both sides.
func numbers() []int {
	l := ends()
	for n := -5; n < 32; n++ {
		l = append(l, n)
	}
	return l
}

// few answers at most n of the texts of l, spread over all of it: others for each number from.
func few(l []string, n, from int) []string {
	if len(l) <= n {
		return slices.Clip(l)
	}
	var some []string
	for i := range n {
		some = append(some, l[(from+i*len(l)/n)%len(l)])
	}
	return some
}

// distinct answers the texts of l, each once.
func distinct(l []string) []string {
	slices.Sort(l)
	return slices.Compact(l)
}

// show tells x, as far as it is short.
func show(x any) string {
	s := fmt.Sprintf("%+q", fmt.Sprintf("%v", x))
	return s[:min(500, len(s))]
}

// build answers the program of l, which is to be right.
func build(t *testing.T, l ...spec) *link.Program {
	t.Helper()
	p, e := link.Build(classesOf(l))
	if e != api.OK || p == nil {
		t.Fatalf("Build of %s: %d", show(l), e)
	}
	return p
}

// takes asks that l is right, and that its program tells all that the model tells. It answers the program.
func takes(t *testing.T, l ...spec) *link.Program {
	t.Helper()
	if !modelOf(l).isRight() {
		t.Fatalf("by hand %s is wrong", show(l))
	}
	classes := classesOf(l)
	before := cloneAll(classes)
	p, e := link.Build(classes)
	if e != api.OK || p == nil {
		t.Fatalf("Build of %s: %d", show(l), e)
	}
	if !slices.EqualFunc(classes, before, same) {
		t.Errorf("Build changed %s", show(l))
	}
	tells(t, p, l)
	return p
}

// refuses asks that l is no right list, though each of its classes is right.
func refuses(t *testing.T, l ...spec) {
	t.Helper()
	if modelOf(l).isRight() {
		t.Errorf("by hand %s is right", show(l))
	}
	errs(t, classesOf(l), api.ErrLink)
}

// errs asks for the error of Build, and for nothing beside it.
func errs(t *testing.T, l []api.Class, want api.Errno) {
	t.Helper()
	before := cloneAll(l)
	if p, e := link.Build(l); p != nil || e != want {
		t.Errorf("Build of %d classes %s: %v, %d; want none, %d", len(l), show(l), p != nil, e, want)
	}
	if !slices.EqualFunc(l, before, same) {
		t.Errorf("Build changed %s", show(before))
	}
}

// tells asks that p tells all that the model of l tells.
func tells(t *testing.T, p *link.Program, l []spec) {
	t.Helper()
	x := modelOf(l)
	tellsClasses(t, p, x)
	for _, n := range numbers() {
		tellsClass(t, p, x, n)
	}
	tellsMembers(t, p, x)
	if got := p.Statics(); !slices.Equal(got, x.statics()) {
		t.Errorf("Statics: %v; want %v", got, x.statics())
	}
	want, _ := x.own(x[firstOwn].name, "main", "()V")
	if m := p.Main(); m != want || m.Class != firstOwn || !m.Static || m.Desc != "()V" || m.Slot != 0 {
		t.Errorf("Main: %v; want %v", m, want)
	}
}

// tellsClasses asks how many classes there are, for the tree, and which are below which.
func tellsClasses(t *testing.T, p *link.Program, x model) {
	t.Helper()
	if p.Len() != len(x) || link.Built() != firstOwn {
		t.Errorf("Len: %d, Built: %d; want %d", p.Len(), link.Built(), len(x))
	}
	var tree []kind.Pair
	for _, s := range x {
		tree = append(tree, kind.Pair{Name: s.name, Super: s.super})
	}
	if got := p.Tree(); !slices.Equal(got, tree) {
		t.Errorf("Tree: %v; want %v", got, tree)
	}
	for a := -3; a < len(x)+3; a++ {
		for b := -3; b < len(x)+3; b++ {
			want := a >= 0 && a < len(x) && slices.Contains(x.above(a), b)
			if p.Sub(a, b) != want {
				t.Errorf("Sub(%d, %d): %v", a, b, !want)
			}
			if isThere := min(a, b) >= 0 && max(a, b) < len(x); isThere && kind.Below(tree, x[a].name, x[b].name) != want { // P9.4
				t.Errorf("Below of %d and %d: %v", a, b, !want)
			}
		}
	}
}

// tellsClass asks for what is told of the class n, or of none.
func tellsClass(t *testing.T, p *link.Program, x model, n int) {
	t.Helper()
	if n < 0 || n >= len(x) {
		tellsNone(t, p, n)
		return
	}
	s := x[n]
	if p.Name(n) != s.name || p.Find(s.name) != n || p.Super(n) != x.find(s.super) {
		t.Errorf("Name(%d): %q, Super: %d, Find: %d; want %q, %d, %d", n, p.Name(n), p.Super(n), p.Find(s.name), s.name, x.find(s.super), n)
	}
	var want api.Class
	isListed := n >= firstOwn
	if isListed {
		want = s.class()
	}
	if c, ok := p.Class(n); ok != isListed || !same(c, want) {
		t.Errorf("Class(%d): %s, %v; want %s, %v", n, show(c), ok, show(want), isListed)
	}
	for place, m := range s.methods {
		whole := api.Method{Flags: m.flags}
		if isListed {
			whole = want.Methods[place]
		}
		if got, name, desc, ok := p.Method(n, place); !ok || !sameMethod(got, whole) || name != m.name || desc != m.desc {
			t.Errorf("Method(%d, %d): %v, %q, %q, %v; want %v, %q, %q", n, place, got, name, desc, ok, whole, m.name, m.desc)
		}
	}
	for _, place := range append(ends(), len(s.methods), len(s.methods)+1, -len(s.methods)) {
		if place < 0 || place >= len(s.methods) {
			noMethod(t, p, n, place)
		}
	}
	if got := p.Slots(n); !slices.Equal(got, x.slots(n)) {
		t.Errorf("Slots(%d): %v; want %v", n, got, x.slots(n))
	}
	if above := x.slots(x.find(s.super)); !slices.Equal(p.Slots(n)[:len(above)], above) { // P9.4
		t.Errorf("Slots(%d): %v; its super's %v", n, p.Slots(n), above)
	}
}

// tellsNone asks that p has no class n.
func tellsNone(t *testing.T, p *link.Program, n int) {
	t.Helper()
	if c, ok := p.Class(n); ok || !same(c, api.Class{}) {
		t.Errorf("Class(%d): %v, %v", n, c, ok)
	}
	if p.Name(n) != "" || p.Super(n) != -1 || len(p.Slots(n)) != 0 {
		t.Errorf("Name(%d): %q, Super: %d, Slots: %v", n, p.Name(n), p.Super(n), p.Slots(n))
	}
	for _, other := range []int{n, 0, 1, firstOwn, -1} {
		if p.Sub(n, other) || p.Sub(other, n) {
			t.Errorf("Sub(%d, %d): %v, and turned about %v", n, other, p.Sub(n, other), p.Sub(other, n))
		}
	}
	for _, place := range []int{n, 0, 1, -1} {
		noMethod(t, p, n, place)
	}
}

// noMethod asks that p has no such method.
func noMethod(t *testing.T, p *link.Program, n, place int) {
	t.Helper()
	if got, name, desc, ok := p.Method(n, place); ok || !sameMethod(got, api.Method{}) || name != "" || desc != "" {
		t.Errorf("Method(%d, %d): %v, %q, %q, %v", n, place, got, name, desc, ok)
	}
}

// tellsMembers asks each class for the names and descriptors that are anywhere in the program, and for some that are not.
func tellsMembers(t *testing.T, p *link.Program, x model) {
	t.Helper()
	names, descs, classes := []string{"none"}, []string{"(J)J"}, []string{"", "None", "object", "[LObject;", "Object;", "\xFF"}
	for n, s := range x {
		classes = append(classes, s.name)
		for _, m := range slices.Concat(s.fields, s.methods) {
			names, descs = append(names, m.name), append(descs, m.desc)
			if n >= firstOwn {
				asks(t, p, x, s.name, m.name, m.desc)
				asks(t, p, x, x[len(x)-1].name, m.name, m.desc)
			}
		}
	}
	names, descs = distinct(names), distinct(descs)
	for i, class := range classes {
		if x.find(class) < 0 && p.Find(class) != -1 {
			t.Errorf("Find(%q): %d", class, p.Find(class))
		}
		for _, name := range append(few(names, 6, i), "", "main", "run", "<init>") {
			for _, desc := range append(few(descs, 5, i), "", "()V", "I") {
				asks(t, p, x, class, name, desc)
			}
		}
	}
}

// asks asks for what Field, Look and Own find.
func asks(t *testing.T, p *link.Program, x model, class, name, desc string) {
	t.Helper()
	want, f := x.field(class, name, desc)
	if m, e := p.Field(class, name, desc); m != want || e != f {
		t.Errorf("Field(%q, %q, %q): %v, %d; want %v, %d", class, name, desc, m, e, want, f)
	}
	want, f = x.look(class, name, desc)
	if m, e := p.Look(class, name, desc); m != want || e != f {
		t.Errorf("Look(%q, %q, %q): %v, %d; want %v, %d", class, name, desc, m, e, want, f)
	}
	want, f = x.own(class, name, desc)
	if m, e := p.Own(class, name, desc); m != want || e != f {
		t.Errorf("Own(%q, %q, %q): %v, %d; want %v, %d", class, name, desc, m, e, want, f)
	}
}
