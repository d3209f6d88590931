package verify_test

import (
	"bytes"
	"fmt"
	"math/rand"
	"slices"
	"strings"
	"testing"

	"understudy/api"
	"understudy/class"
	"understudy/kind"
	"understudy/link"
	"understudy/maps"
	"understudy/ops"
	"understudy/rules"
	"understudy/verify"
)

// shown ends a test that has told enough.
func shown(t *testing.T, wrong *int) {
	t.Helper()
	if *wrong++; *wrong > 10 {
		t.FailNow()
	}
}

// writer writes a method by chance, most of which is right: it follows the frame by rules.Step, and lays maps of what comes.
type writer struct {
	*rand.Rand
	*maker
	x     *rules.Place // of a method with the same descriptor, Stack and Locals
	frame *api.Frame
	at    int
	begun []int             // where instructions begin
	held  map[int]api.Frame // maps
	left  []leap            // what leads on to a place that is not written yet
	code  []byte
}

// leap is an instruction that leads on, and the frame with which it does.
type leap struct {
	at, op int
	frame  api.Frame
}

// one tells true once in n times.
func (w *writer) one(n int) bool { return w.Intn(n) == 0 }

// pick answers one of the words.
func (w *writer) pick(words string) string {
	l := strings.Fields(words)
	return l[w.Intn(len(l))]
}

// weaker answers a frame for which f may stand.
func (w *writer) weaker(f api.Frame) api.Frame {
	f.Locals, f.Stack = slices.Clone(f.Locals), slices.Clone(f.Stack)
	for n, x := range f.Locals {
		if x.K != api.KThis && w.one(6) {
			f.Locals[n] = api.Type{}
		}
	}
	for n, x := range f.Stack {
		if x.K == api.KRef && w.one(6) {
			f.Stack[n].Name = "Object"
		}
	}
	return f
}

// other answers any frame.
func (w *writer) other() api.Frame {
	var f api.Frame
	r := reader{maker: w.maker}
	for range w.x.First().Locals {
		f.Locals = append(f.Locals, r.typeOf(w.pick("T I J N A B E Object Throwable [I [A this @0 None")))
	}
	for range w.Intn(3) {
		f.Stack = append(f.Stack, r.typeOf(w.pick("T I J N A B E Throwable [I this @0")))
	}
	return f
}

// enter lays a map where the next instruction begins, if one must be there, and now and then.
func (w *writer) enter() {
	w.begun = append(w.begun, w.at)
	w.left = slices.DeleteFunc(w.left, w.lands)
	if _, isThere := w.held[w.at]; !isThere && (w.frame == nil && !w.one(30) || w.one(5)) {
		f := w.other()
		if w.frame != nil && !w.one(10) {
			f = w.weaker(*w.frame)
		}
		w.lay(w.at, f)
	}
	if f, isThere := w.held[w.at]; isThere {
		w.frame = &f
	}
}

// lands has x lead to where the next instruction begins, now and then, and tells whether it did.
func (w *writer) lands(x leap) bool {
	if !w.one(3) || w.frame != nil && !w.x.Assign(x.frame, *w.frame) && !w.one(20) {
		return false
	}
	w.lead(x, w.at)
	if w.frame == nil {
		w.frame = &x.frame
	}
	w.lay(w.at, w.weaker(*w.frame))
	return true
}

// stay writes what leads to itself with the frame f.
func (w *writer) stay(f api.Frame) {
	w.begun = append(w.begun, w.at)
	w.lay(w.at, f)
	w.code = append(w.code, 0, 0, 0)
	w.lead(leap{at: w.at, op: op("goto")}, w.at)
	w.at = len(w.code)
	w.frame = nil
}

// lay lays a map.
func (w *writer) lay(at int, f api.Frame) {
	f.Fresh = slices.Contains(f.Locals, api.Type{K: api.KThis})
	w.held[at] = f
}

// lead writes where x leads.
func (w *writer) lead(x leap, to int) {
	b, _ := ops.Encode(api.Instr{At: x.at, Op: x.op, A: to})
	copy(w.code[x.at:], b)
}

// write writes an instruction of that text, or what leads. One that is wrong behind the frame is written now and then alone.
func (w *writer) write(text string) {
	words := strings.Fields(text)
	i := api.Instr{At: w.at, Op: op(words[0])}
	shape, _ := ops.Shape(i.Op)
	b := []byte{byte(i.Op), 0, 0} // leads to itself
	if shape != 't' {
		b = reader{maker: w.maker}.code(part{w.at, words})
		i, _ = ops.Decode(append(make([]byte, w.at), b...), w.at)
	}
	var f api.Frame
	e := api.ErrFrame
	if w.frame != nil {
		f, e = w.x.Step(i, *w.frame)
	}
	if e != api.OK && !w.one(25) {
		return
	}
	w.code = append(w.code, b...)
	w.at = len(w.code)
	w.frame = nil
	if e != api.OK {
		return
	}
	if shape == 't' {
		w.leap(leap{i.At, i.Op, f})
	}
	if !strings.HasSuffix(words[0], "return") && words[0] != "goto" && words[0] != "athrow" {
		w.frame = &f
	}
}

// leap has x lead back, or on.
func (w *writer) leap(x leap) {
	if w.one(4) && len(w.held) > 0 {
		for _, at := range w.begun {
			if f, isThere := w.held[at]; isThere && (w.x.Assign(x.frame, f) || w.one(8)) {
				w.lead(x, at)
				return
			}
		}
	}
	w.left = append(w.left, x)
}

// next answers the text of an instruction that may well be right behind the frame.
func (w *writer) next() string {
	anything := "nop iconst_1 lconst_0 aconst_null aload_0 aload_1 iload_1 iload_2 lload_2 pop dup swap iadd istore_1 istore_2 lstore_2 astore_1 astore_2 i2l goto ifeq ifnull return athrow areturn ireturn monitorenter arraylength"
	if w.frame == nil || w.one(30) {
		return w.pick(anything)
	}
	l := w.frame.Stack
	if len(l) == 0 {
		return []string{"nop", "iconst_2", "lconst_1", "aconst_null", "aload_0", "aload_1", "iload_1", "iload_2", "new A", "new B", "getstatic A.s:I", "getstatic A.t:LA;", "goto", "return", "new E"}[w.Intn(15)]
	}
	switch l[len(l)-1].K {
	case api.KInt:
		return w.pick("pop istore_1 istore_2 ifeq ifle ineg i2l iconst_0 dup iadd if_icmpeq ireturn")
	case api.KLong:
		return w.pick("pop lstore_1 lstore_2 l2i lneg dup lconst_1 lreturn")
	case api.KNew:
		if f := "invokespecial " + map[int]string{0: "A", 1: "B", 2: "E"}[w.Intn(3)] + ".<init>()V"; w.one(2) {
			return f
		}
		return w.pick("pop astore_1 astore_2 dup")
	case api.KThis:
		return "invokespecial Object.<init>()V"
	}
	return w.pick("pop astore_1 astore_2 ifnull ifnonnull dup areturn athrow monitorexit aconst_null if_acmpeq")
}

// traps answers traps by chance, and writes what takes them: a handler behind all else.
func (w *writer) traps() []api.Trap {
	var l []api.Trap
	for range w.Intn(3) {
		w.begun = slices.Compact(w.begun)
		from := w.Intn(len(w.begun))
		t := api.Trap{From: w.begun[from], To: len(w.code), Handler: w.at}
		if n := from + 1 + w.Intn(3); n < len(w.begun) {
			t.To = w.begun[n]
		}
		caught := "Throwable"
		if w.one(2) {
			caught = w.pick("Throwable E F E F E DivError A None Object")
			t.Type = w.class(caught)
		}
		if w.one(20) {
			t.Handler = w.begun[w.Intn(len(w.begun))]
			l = append(l, t)
			continue
		}
		l = append(l, t)
		f := w.x.First()
		for n := range f.Locals {
			if f.Locals[n].K != api.KThis && !w.one(4) {
				f.Locals[n] = api.Type{}
			}
		}
		f.Stack = []api.Type{{K: api.KRef, Name: w.pick("Throwable Throwable Object " + caught)}}
		w.stay(f)
	}
	return l
}

// method answers a method by chance.
func (w *writer) method(m api.Method) api.Method {
	f := w.x.First()
	w.frame, w.at, w.begun, w.held, w.left, w.code = &f, 0, nil, map[int]api.Frame{}, nil, nil
	for range 1 + w.Intn(20) {
		w.enter()
		w.write(w.next())
	}
	if w.frame == nil {
		w.frame = &f
	}
	w.stay(*w.frame)
	for _, x := range w.left {
		w.lead(x, w.at)
		w.stay(w.weaker(x.frame))
	}
	m.Traps = w.traps()
	m.Code = w.code
	m.Maps = w.maps()
	if w.one(40) {
		m.Code[w.Intn(len(m.Code))] = byte(w.Intn(200))
	}
	if w.one(40) && len(m.Maps) > 0 {
		m.Maps[w.Intn(len(m.Maps))] = byte(w.Intn(10))
	}
	if w.one(40) {
		m.Stack, m.Locals = w.Intn(3), w.Intn(4)
	}
	return m
}

// maps answers the bytes of the maps.
func (w *writer) maps() []byte {
	var l []api.Map
	for at := range w.at + 1 {
		if f, isThere := w.held[at]; isThere {
			for _, x := range slices.Concat(f.Locals, f.Stack) {
				if x.K == api.KRef {
					w.class(x.Name)
				} else if x.K == api.KArray {
					w.class(kind.Text(x))
				}
			}
			l = append(l, api.Map{At: at, Frame: f})
		}
	}
	b, e := maps.Encode(w.pool, l)
	if e != api.OK {
		panic(fmt.Sprint(l, e))
	}
	return b
}

// heads are methods as which others are written: Stack and Locals too.
var heads = []string{"+a ()V 3 3; return", "+b (IJ)V 2 3; return", "c ()V 2 3; return", "d (LA~)V 3 4; return", "<init> (I)V 2 3; goto 0", "<init> (J)V 3 3; goto 0", "+e (I)I 2 3; iconst_0; ireturn", "+f (LB~[I)LA~ 2 3; aconst_null; areturn", "g ([LA~I)J 2 3; lconst_0; lreturn"}

// written answers the family, with as many methods in A as there may be written by chance.
func written(t testing.TB, chance *rand.Rand) []api.Class {
	t.Helper()
	l := classesOf(family(heads...))
	p := build(t, l)
	m := &maker{pool: l[0].Pool}
	own := slices.Clone(l[0].Methods[tested:])
	l[0].Methods = l[0].Methods[:tested]
	for n := tested; n < api.MaxMembers; n++ {
		k := chance.Intn(len(own))
		x, e := rules.At(p, firstOwn, tested+k)
		if e != api.OK {
			t.Fatalf("At: %d", e)
		}
		w := &writer{Rand: chance, maker: m, x: x}
		made := w.method(own[k])
		if made.Name != m.text("<init>") {
			made.Name = m.text(fmt.Sprint("m", n))
		} else if n >= tested+2 {
			continue // there is one of each descriptor
		} else {
			made.Desc = m.text([]string{"(I)V", "(J)V"}[n-tested])
		}
		l[0].Methods = append(l[0].Methods, made)
	}
	l[0].Pool = m.pool
	return l
}

func TestByChance(t *testing.T) { // P12.1, P12.2: methods of all sorts, held against a reading by hand
	chance := rand.New(rand.NewSource(12))
	count, caught, wrong := map[api.Errno]int{}, 0, 0
	for range 400 {
		l := written(t, chance)
		p, e := link.Build(l)
		if e != api.OK {
			t.Fatalf("Build: %d", e)
		}
		class, method, first := -1, -1, api.OK
		for n := range l[0].Methods {
			want := byHand(p, l, firstOwn, n)
			count[want]++
			if got := verify.Method(p, firstOwn, n); got != want {
				t.Errorf("Method of %v: %d, want %d", l[0].Methods[n], got, want)
				shown(t, &wrong)
			}
			if want != api.OK && first == api.OK {
				class, method, first = firstOwn, n, want
			}
			if want == api.OK && len(l[0].Methods[n].Traps) > 0 {
				caught++
			}
		}
		tells(t, p, class, method, first)
	}
	if caught < 1000 {
		t.Errorf("%d with traps are right", caught)
	}
	for e, n := range map[api.Errno]int{api.OK: 5000, api.ErrFrame: 1000, api.ErrType: 500, api.ErrDepth: 100, api.ErrMaps: 50, api.ErrFlow: 50, api.ErrLocal: 50, api.ErrMissing: 20, api.ErrOp: 20, api.ErrShort: 10} {
		if count[e] < n {
			t.Errorf("%d answers %d", count[e], e)
		}
	}
}

func TestSpoiltFiles(t *testing.T) { // P12.3, P1, P2: files of which a byte is another: the error of the layer that refuses, or the reading by hand's
	l := classesOf(family("+m (I)V 2 1; iload_0; ifeq x; new B; dup; invokespecial B.<init>()V; pop; x: return; h: athrow; map x I |; map h I | E; trap 0 x h E"))
	files := filesOf(t, l)
	count, wrong := map[api.Errno]int{}, 0
	for n := range files[0] {
		for _, d := range []byte{1, 2, 3, 8, 16, 0x80, 0xFF} {
			spoilt := slices.Clone(files)
			spoilt[0] = bytes.Clone(files[0])
			spoilt[0][n] += d
			want := loadByHand(spoilt)
			count[want]++
			if p, e := verify.Load(spoilt); e != want || (p != nil) != (e == api.OK) {
				t.Errorf("Load with the byte %d other by %d: %d, want %d", n, d, e, want)
				shown(t, &wrong)
			}
		}
	}
	if count[api.OK] < 50 || len(count) < 10 {
		t.Errorf("answers: %v", count)
	}
}

// loadByHand answers the error that Load does.
func loadByHand(files [][]byte) api.Errno {
	var l []api.Class
	for _, b := range files {
		c, e := class.Decode(b)
		if e != api.OK {
			return e
		}
		l = append(l, c)
	}
	p, e := link.Build(l)
	if e != api.OK {
		return e
	}
	for n, c := range l {
		for m := range c.Methods {
			if e := byHand(p, l, firstOwn+n, m); e != api.OK {
				return e
			}
		}
	}
	return api.OK
}
