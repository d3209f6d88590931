package link_test

import (
	"math/rand"
	"slices"
	"strconv"
	"strings"
	"testing"

	"understudy/api"
	"understudy/class"
	"understudy/link"
)

// mainMem is the method that a program begins with.
var mainMem = mem{"main", "()V", api.Static}

// first answers a class A with main, and with those methods behind it.
func first(methods ...mem) spec {
	return spec{name: "A", super: "Object", methods: append([]mem{mainMem}, methods...)}
}

// chain answers n classes, each of which is right below the one ahead of it.
func chain(n int) []spec {
	l := []spec{first()}
	for len(l) < n {
		l = append(l, spec{name: "A" + strconv.Itoa(len(l)), super: l[len(l)-1].name})
	}
	return l
}

// erring answers classes of which each errs, by the error.
func erring() map[api.Errno]api.Class {
	good := first().class()
	noPool, badText, many, noThis := clone(good), clone(good), clone(good), clone(good)
	noPool.Pool = nil
	badText.Pool = append(badText.Pool, utf("\xFF"))
	many.Fields = make([]api.Field, api.MaxMembers+1)
	noThis.This = 0
	return map[api.Errno]api.Class{api.ErrPool: noPool, api.ErrUtf: badText, api.ErrLong: many, api.ErrClass: noThis}
}

func TestExample(t *testing.T) { // the chapter's example
	p := takes(t, first())
	if p.Len() != 14 || p.Find("A") != 13 || p.Super(13) != 0 {
		t.Errorf("%d, %d, %d", p.Len(), p.Find("A"), p.Super(13))
	}
}

func TestBuildMost(t *testing.T) { // P9.1, the limit MaxClasses: at it all is as below it, and one more is refused
	for n := 1; n <= api.MaxClasses; n++ {
		takes(t, chain(n)...)
	}
	for _, n := range []int{17, 18, 29, 30, 1 << 8, 1 << 16} {
		errs(t, classesOf(chain(n)), api.ErrLong)
		errs(t, make([]api.Class, n), api.ErrLong)
	}
	for e, bad := range erring() { // how many there are is looked at ahead of what errs
		for at := range api.MaxClasses + 1 {
			l := classesOf(chain(api.MaxClasses + 1))
			l[at] = bad
			errs(t, l, api.ErrLong)
			if at < api.MaxClasses {
				errs(t, l[:api.MaxClasses], e)
			}
		}
	}
}

func TestBuildErring(t *testing.T) { // P9.1, P2: class.Check's error of the first that errs
	all := erring()
	for e, bad := range all {
		if class.Check(bad) != e {
			t.Fatalf("%d: %d", e, class.Check(bad))
		}
		errs(t, []api.Class{bad}, e)
		for _, later := range all {
			for _, at := range []int{0, 1, 3} { // of right classes ahead
				l := append(classesOf(chain(3)[:at]), bad, later, first().class(), later)
				errs(t, l, e)
			}
		}
	}
	errs(t, []api.Class{{}}, api.ErrPool)
	errs(t, make([]api.Class, api.MaxClasses), api.ErrPool)
}

// faulty are lists that are not right, though each of their classes is.
func faulty() [][]spec {
	return [][]spec{
		nil,
		{{name: "A", super: "Object"}},
		{first(), first()},
		{first(), {name: "", super: "Object"}},
		{first(), {name: "B", super: "None"}},
		{first(), {name: "B", super: "Sys"}},
		{first(), {name: "B", super: "B"}},
		{first(), {name: "B", super: "C"}, {name: "C", super: "B"}},
		{first(mem{"m", "()", 0})},
		{first(mem{"m", "()V", 0}, mem{"m", "()V", 0})},
		{first(mem{"wait", "()V", api.Static})},
		{first(mem{"<init>", "()V", api.Static})},
		{first(), {name: "B", super: "A", fields: []mem{{"f", "V", 0}}}},
		{first(), {name: "B", super: "A", fields: []mem{{"f", "I", 0}, {"f", "I", 0}}}},
	}
}

func TestBuildErringFirst(t *testing.T) { // P9.1, P2: what errs is told ahead of what is wrong with the list, wherever both stand
	for _, l := range faulty() {
		refuses(t, l...)
		for e, bad := range erring() {
			errs(t, append(classesOf(l), bad), e)
			errs(t, append([]api.Class{bad}, classesOf(l)...), e)
		}
		for _, other := range faulty() {
			refuses(t, slices.Concat(l, other)...)
		}
	}
}

func TestBuildNone(t *testing.T) { // P9.1, P3: no list has no main
	errs(t, nil, api.ErrLink)
	errs(t, []api.Class{}, api.ErrLink)
	errs(t, classesOf(chain(3))[:0], api.ErrLink)
}

// badBytes are those that no name has.
const badBytes = ".;[/<>"

// badNames answers names that none has: of no byte, and with each byte that a name has not, at each end and in the middle.
func badNames() []string {
	l := []string{"", "<init", "init>", "<init>x", "x<init>", "<clinit>", "<Init>", "<init>\x00", "[I", "LA;"}
	for _, b := range badBytes {
		c := string(b)
		l = append(l, c, c+c, c+"A", "A"+c, "A"+c+"B", strings.Repeat("n", api.MaxName-1)+c)
	}
	return l
}

// goodNames answers names with all other bytes, of the shortest and the longest.
func goodNames() []string {
	l := []string{"B", "BB", "object", "Object ", "sys", "init", "()V", "B\nC", "$1", "\u00E9", "日本", "\U00010400", "\uFFFD", strings.Repeat("n", api.MaxName), strings.Repeat("\u00E9", api.MaxName/2), "I", "V"}
	for b := range 0x80 {
		if c := string(rune(b)); !strings.Contains(badBytes, c) {
			l = append(l, c+"A", "B"+c)
		}
	}
	return l
}

func TestBuildClassNames(t *testing.T) { // P9.1: names of classes
	for _, n := range append(badNames(), "<init>") {
		refuses(t, first(), spec{name: n, super: "Object"})
		refuses(t, spec{name: n, super: "Object", methods: []mem{mainMem}})
		refuses(t, first(), spec{name: "B", super: n}, spec{name: n, super: "A"})
	}
	for _, n := range goodNames() {
		takes(t, first(), spec{name: n, super: "Object"})
		takes(t, spec{name: n, super: "Thread", methods: []mem{mainMem}})
	}
}

func TestBuildClassTwice(t *testing.T) { // P9.1: each name once, and none of the built in
	for _, b := range builtSpecs() {
		refuses(t, first(), spec{name: b.name, super: "Object"})
		refuses(t, first(), spec{name: b.name, super: b.super})
		refuses(t, spec{name: b.name, super: "Object", methods: []mem{mainMem}})
		refuses(t, first(), spec{name: "B", super: "A"}, spec{name: b.name, super: "B"})
	}
	for n := 2; n <= api.MaxClasses; n++ {
		for _, at := range []int{0, 1, n / 2, n - 1} {
			for _, other := range []int{0, 1, n / 2, n - 1} {
				l := chain(n)
				l[at].name = l[other].name
				if at == other {
					takes(t, l...)
					continue
				}
				l[at].super = "Object"
				refuses(t, l...)
			}
		}
	}
	again := first()
	again.spare = 5 // the same text, at another place of the pool
	refuses(t, first(), again)
}

func TestBuildSupers(t *testing.T) { // P9.1: what a super may be, and where supers lead
	for _, b := range builtSpecs() {
		l := []spec{{name: "A", super: b.name, methods: []mem{mainMem}}, {name: "B", super: "A"}}
		if b.name == "Sys" {
			refuses(t, l...)
			refuses(t, first(), spec{name: "B", super: "Sys"})
			refuses(t, first(), spec{name: "B", super: "C"}, spec{name: "C", super: "Sys"})
			continue
		}
		takes(t, l...)
	}
	for _, n := range []string{"None", "object", "a", "Sys2", "[LObject;", "LObject;", "I", "\u00E9"} {
		refuses(t, first(), spec{name: "B", super: n})
		refuses(t, spec{name: "A", super: n, methods: []mem{mainMem}})
		refuses(t, first(), spec{name: "B", super: "C"}, spec{name: "C", super: n})
	}
}

func TestBuildRound(t *testing.T) { // P9.1, P1: supers that go round, of each length, main's class among them or not
	for n := 1; n <= api.MaxClasses; n++ {
		for at := range n {
			l := chain(n)
			l[at].super = l[n-1].name
			refuses(t, l...)
			slices.Reverse(l[1:])
			refuses(t, l...)
		}
	}
}

func TestBuildOrder(t *testing.T) { // P9.1: a super may stand behind its class in the list
	l := chain(api.MaxClasses)
	for i := range l {
		l[i].fields = []mem{{"f", "I", 0}, {"s", "J", api.Static}, {"g" + strconv.Itoa(i), "J", 0}}
	}
	last := l[len(l)-1].name
	takes(t, l...)
	slices.Reverse(l)
	l[0].methods, l[len(l)-1].methods = l[len(l)-1].methods, nil
	p := takes(t, l...)
	if n := len(p.Slots(p.Find(last))); n != 2*api.MaxClasses {
		t.Errorf("%d slots", n)
	}
	chance := rand.New(rand.NewSource(9))
	for range 50 {
		m := slices.Clone(l)
		chance.Shuffle(len(m), func(i, j int) { m[i], m[j] = m[j], m[i] })
		for i := range m {
			m[i].methods = nil
		}
		m[0].methods = []mem{mainMem}
		takes(t, m...)
	}
}

func TestBuildMain(t *testing.T) { // P9.1: a Static method main()V of the first class of the list
	is := func(right bool, methods ...mem) {
		t.Helper()
		l := []spec{{name: "A", super: "Object", methods: methods}, {name: "B", super: "Object", methods: []mem{mainMem}}}
		for n := 1; n <= 2; n++ { // another class's main does not count
			if right {
				takes(t, l[:n]...)
			} else {
				refuses(t, l[:n]...)
			}
		}
	}
	is(false)
	is(true, mainMem)
	is(false, mem{"main", "()V", 0})
	for _, d := range []string{"()I", "()J", "(I)V", "(J)V", "()LA;", "([LObject;)V", "()[I"} {
		is(false, mem{"main", d, api.Static})
		is(true, mem{"main", d, api.Static}, mainMem)
		is(true, mem{"main", d, 0}, mainMem)
	}
	for _, n := range []string{"Main", "main ", "mai", "run", "mainn"} {
		is(false, mem{n, "()V", api.Static})
		is(true, mem{n, "()V", api.Static}, mem{n, "()V", 0}.renamed("other"), mainMem)
	}
	field := spec{name: "A", super: "Object", fields: []mem{{"main", "I", api.Static}}}
	refuses(t, field)
	above := spec{name: "A", super: "B"} // main of the class above is not the first class's
	refuses(t, above, spec{name: "B", super: "Object", methods: []mem{mainMem}})
	above.methods = []mem{mainMem}
	takes(t, above, spec{name: "B", super: "Object", methods: []mem{mainMem}})
	takes(t, above, spec{name: "B", super: "Object"})
}

// renamed answers m with another name.
func (m mem) renamed(name string) mem {
	m.name = name
	return m
}

func TestBuildByChance(t *testing.T) { // P9.1, P9.2: lists of all sorts, right and wrong ones
	chance := rand.New(rand.NewSource(90))
	pick := func(l ...string) string { return l[chance.Intn(len(l))] }
	mems := func(most int, names, descs []string) []mem {
		var l []mem
		for range chance.Intn(most + 1) {
			l = append(l, mem{pick(names...), pick(descs...), api.Static * (chance.Intn(8) / 7)})
		}
		return l
	}
	right := 0
	for range 20000 {
		l := []spec{first()}
		for len(l) < 1+chance.Intn(6) {
			l = append(l, spec{name: pick("B", "C", "D", "E", "F", "G", "H", "I", "J", "K", "L", "M")})
		}
		for i := range l {
			s := &l[i]
			s.super = pick("Object", "Thread", "Throwable", "DivError", l[chance.Intn(len(l))].name, l[i/2].name, l[0].name)
			if i == 0 {
				s.super = pick("Object", "Object", "Thread", l[len(l)-1].name)
			}
			s.fields = mems(4, []string{"f", "g", "h", "i", "j"}, []string{"I", "J", "[I", "LA;", "[[LNone;"})
			s.methods = append(s.methods, mems(3, []string{"m", "n", "o", "run", "wait", "<init>"}, []string{"()V", "(I)V", "(J[IJ)V", "(LA;)V"})...)
			s.spare = chance.Intn(4)
		}
		if !modelOf(l).isRight() {
			refuses(t, l...)
			continue
		}
		right++
		if right <= 500 {
			takes(t, l...)
		} else if p, e := link.Build(classesOf(l)); e != api.OK || p == nil {
			t.Fatalf("Build of %s: %d", show(l), e)
		}
	}
	if right < 1500 || right > 18500 {
		t.Errorf("%d of them are right", right)
	}
}
