package verify_test

import (
	"bytes"
	"slices"
	"strconv"
	"testing"

	"understudy/api"
	"understudy/link"
	"understudy/verify"
)

// errs are codes of a static method that takes and answers nothing, with Stack 1 and no locals, and what is wrong with each.
func errs() []example {
	return []example{{"pop; return", api.ErrDepth}, {"return; return", api.ErrFrame}, {"iconst_0; athrow", api.ErrType}, {"new None; return", api.ErrMissing}, {"iload_0; return", api.ErrLocal}, {"nop", api.ErrFlow}, {"code C9", api.ErrOp}, {"code 10", api.ErrShort}, {"return; maps 00 00 00", api.ErrMaps}}
}

// grid answers three classes with three static methods each, main the first of all; those whose bits are set err, each with an error of its own. It answers the error of each, too.
func grid(bits int) ([]spec, []api.Errno) {
	var l []spec
	var e []api.Errno
	wrong := errs()
	for class := range 3 {
		s := spec{name: "C" + strconv.Itoa(class), super: "Object"}
		for method := range 3 {
			n := 3*class + method
			x := example{"return", api.OK}
			if bits&(1<<n) != 0 {
				x = wrong[n]
			}
			name := "m" + strconv.Itoa(method)
			if n == 0 {
				name = "main"
			}
			s.methods = append(s.methods, "+"+name+" ()V 1 0; "+x.text)
			e = append(e, x.e)
		}
		l = append(l, s)
	}
	return l, e
}

func TestProgram(t *testing.T) { // P12.2, P12.3: no error, and errors in several methods of several classes: the first class's, the first method's; each method's own is Method's
	for bits := range 1 << 9 {
		l, errors := grid(bits)
		classes := classesOf(l)
		p := build(t, classes)
		class, method, e := -1, -1, api.OK
		for n, x := range errors {
			if got := verify.Method(p, firstOwn+n/3, n%3); got != x {
				t.Errorf("Method %d: %d, want %d", n, got, x)
			}
			if x != api.OK && e == api.OK {
				class, method, e = firstOwn+n/3, n%3, x
			}
		}
		tells(t, p, class, method, e)
		loads(t, filesOf(t, classes), e)
	}
}

func TestProgramOfOne(t *testing.T) { // P12.2: the first method and the last one, classes without methods between
	for _, x := range errs() {
		for _, c := range []struct {
			l             []spec
			class, method int
		}{
			{[]spec{{"A", "Object", nil, []string{"+main ()V 1 0; " + x.text}}}, 13, 0},
			{[]spec{{"A", "B", nil, []string{"+main ()V 0 0; return", "+m ()V 1 0; " + x.text}}, {"B", "Object", nil, nil}}, 13, 1},
			{[]spec{{"A", "Object", nil, []string{"+main ()V 0 0; return"}}, {"B", "Object", nil, nil}, {"C", "Object", []string{"f I"}, nil}, {"D", "Object", nil, []string{"+a ()V 0 0; return", "+b ()V 0 0; return", "+m ()V 1 0; " + x.text}}}, 16, 2},
		} {
			p := build(t, classesOf(c.l))
			tells(t, p, c.class, c.method, x.e)
			loads(t, filesOf(t, classesOf(c.l)), x.e)
		}
	}
}

func TestGreatPrograms(t *testing.T) { // P12.2, P12.3: as many classes and methods as there may be, the last one of all errs, or none does
	for _, x := range append(errs(), example{"return", api.OK}) {
		var l []spec
		for class := range api.MaxClasses {
			s := spec{name: "C" + strconv.Itoa(class), super: "Object", methods: []string{"+main ()V 0 0; return"}}
			for method := 1; method < api.MaxMembers; method++ {
				text := "return"
				if class == api.MaxClasses-1 && method == api.MaxMembers-1 {
					text = x.text
				}
				s.methods = append(s.methods, "+m"+strconv.Itoa(method)+" ()V 1 0; "+text)
			}
			l = append(l, s)
		}
		classes := classesOf(l)
		if x.e == api.OK {
			tells(t, build(t, classes), -1, -1, api.OK)
		} else {
			tells(t, build(t, classes), firstOwn+api.MaxClasses-1, api.MaxMembers-1, x.e)
		}
		loads(t, filesOf(t, classes), x.e)
		classes = append(classes, classes[1])
		loads(t, filesOf(t, classes), api.ErrLong)
	}
}

func TestLoad(t *testing.T) { // P12.3: no file, one, several; the program has them in order
	for _, none := range [][][]byte{nil, {}} {
		loads(t, none, api.ErrLink)
	}
	l := classesOf(family("+m ()V 1 0; iconst_0; ifeq x; nop; x: return; map x |"))
	p := loads(t, filesOf(t, l), api.OK)
	if p.Len() != firstOwn+4 || p.Name(13) != "A" || p.Name(14) != "B" || p.Name(16) != "F" || p.Main() != (api.Member{Class: 13, Desc: "()V", Static: true}) {
		t.Errorf("Load: %d classes, %v", p.Len(), p.Main())
	}
	for n, c := range l {
		got, is := p.Class(firstOwn + n)
		if !is || !slices.EqualFunc(got.Methods, c.Methods, sameMethod) || !slices.Equal(got.Pool, c.Pool) {
			t.Errorf("class %d is another", n)
		}
	}
	tells(t, p, -1, -1, api.OK)
	one := classesOf([]spec{{"A", "Object", nil, []string{"+main ()V 0 0; return"}}})
	if p := loads(t, filesOf(t, one), api.OK); p.Len() != firstOwn+1 {
		t.Errorf("Load of one: %d", p.Len())
	}
}

// sameMethod tells whether two methods are the same: nil and empty lists are (P3).
func sameMethod(m, n api.Method) bool {
	return m.Flags == n.Flags && m.Name == n.Name && m.Desc == n.Desc && m.Stack == n.Stack && m.Locals == n.Locals && bytes.Equal(m.Code, n.Code) && slices.Equal(m.Traps, n.Traps) && bytes.Equal(m.Maps, n.Maps)
}

func TestLoadErrors(t *testing.T) { // P12.3, P2: class.Decode's error of the first that errs, ahead of link.Build's, ahead of Program's
	right := filesOf(t, classesOf(family()))
	pool := bytes.Clone(right[0])
	pool[10] = 2 // a tag that is none
	spoilt := []struct {
		b []byte
		e api.Errno
	}{
		{nil, api.ErrShort}, {right[0][:len(right[0])-1], api.ErrShort}, {[]byte{1}, api.ErrShort}, {append(bytes.Clone(right[0]), 0), api.ErrClass}, {[]byte("Java class"), api.ErrClass}, {pool, api.ErrPool},
	}
	for _, x := range spoilt {
		loads(t, [][]byte{x.b}, x.e)
		for n := range right {
			files := slices.Clone(right)
			files[n] = x.b
			loads(t, files, x.e)
			for _, y := range spoilt { // the first of two
				for k := n + 1; k < len(files); k++ {
					two := slices.Clone(files)
					two[k] = y.b
					loads(t, two, x.e)
				}
			}
		}
		loads(t, append(slices.Repeat(right[:1], 2), x.b), x.e)                // not two classes with a name
		loads(t, append(slices.Repeat(right[:1], api.MaxClasses+1), x.b), x.e) // not too many
		bad := filesOf(t, classesOf(family("+m ()V 1 0; pop; return")))
		loads(t, append(bad, x.b), x.e)
	}
	bad := filesOf(t, classesOf(family("+m ()V 1 0; pop; return")))
	for _, x := range []struct {
		files [][]byte
		e     api.Errno
	}{
		{slices.Repeat(right[:1], api.MaxClasses+1), api.ErrLong}, {slices.Repeat(bad[:1], api.MaxClasses+1), api.ErrLong}, {slices.Repeat(right[:1], 2), api.ErrLink}, {right[1:], api.ErrLink}, {right[1:2], api.ErrLink}, {append(slices.Clone(bad), right[0]), api.ErrLink}, {[][]byte{right[1], right[0]}, api.ErrLink}, {[][]byte{bad[0], right[3]}, api.ErrLink},
		{bad, api.ErrDepth}, {bad[:1], api.ErrDepth}, {right, api.OK}, {right[:1], api.OK}, {right[:2], api.OK},
	} {
		loads(t, x.files, x.e)
	}
}

func TestLoadIsMethod(t *testing.T) { // P12.3: each error of a method is Load's, with no program beside it
	for _, x := range errs() {
		for n := range 4 {
			l := family()
			l[n].methods = append(l[n].methods, "+wrong ()V 1 0; "+x.text)
			loads(t, filesOf(t, classesOf(l)), x.e)
		}
	}
}

func TestLoadKeepsNothing(t *testing.T) { // P4: what was handed in may change, and the program does not
	l := classesOf(family("+m (I)V 1 1; iconst_0; ifeq x; nop; x: return; h: return; map x I |; map h I | E; trap 0 x h E"))
	files := filesOf(t, l)
	p := loads(t, files, api.OK)
	for _, b := range files {
		for n := range b {
			b[n] = 0xFF
		}
	}
	tells(t, p, -1, -1, api.OK)
	for n, c := range l {
		if got, _ := p.Class(firstOwn + n); !slices.EqualFunc(got.Methods, c.Methods, sameMethod) || !slices.Equal(got.Pool, c.Pool) {
			t.Errorf("class %d is another", n)
		}
	}
}

func TestProgramsStay(t *testing.T) { // P4, P5: a program that was asked is as it was, and answers the same; others do not count
	texts := []string{"+m (I)V 1 1; iconst_0; ifeq x; nop; x: return; h: return; map x I |; map h I | E; trap 0 x h E", "+m ()V 1 0; pop; return", "+m ()V 1 0; return; return", "m (I)V 1 1; return"}
	var programs []*link.Program
	var lists [][]api.Class
	for _, text := range texts {
		l := classesOf(family(text))
		lists = append(lists, l)
		programs = append(programs, build(t, l))
	}
	want := []api.Errno{api.OK, api.ErrDepth, api.ErrFrame, api.ErrLocal}
	for range 3 {
		for n, p := range programs {
			if e := verify.Method(p, firstOwn, tested); e != want[n] {
				t.Errorf("Method of %d: %d", n, e)
			}
			if _, _, e := verify.Program(p); e != want[n] {
				t.Errorf("Program of %d: %d", n, e)
			}
			for k, c := range lists[n] {
				if got, _ := p.Class(firstOwn + k); !slices.EqualFunc(got.Methods, c.Methods, sameMethod) || !slices.Equal(got.Pool, c.Pool) || got.This != c.This || got.Super != c.Super || !slices.Equal(got.Fields, c.Fields) {
					t.Errorf("class %d of %d is another", k, n)
				}
			}
		}
	}
	q := *programs[1]
	if e := verify.Method(&q, firstOwn, tested); e != api.ErrDepth {
		t.Errorf("of a program that is copied: %d", e)
	}
}
