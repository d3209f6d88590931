package link_test

import (
	"slices"
	"strconv"
	"testing"

	"understudy/api"
	"understudy/link"
)

// family is a list of classes, of which one stands behind what is below it, with fields and methods that hide one another.
func family() []spec {
	return []spec{
		{name: "C", super: "B",
			fields:  []mem{{"x", "I", 0}, {"s", "J", api.Static}, {"y", "[J", 0}, {"x", "J", api.Static}},
			methods: []mem{{"m", "()V", 0}, {"<init>", "(I)V", 0}, mainMem, {"notify", "()V", 0}}},
		{name: "A", super: "Thread",
			fields:  []mem{{"s", "I", api.Static}, {"x", "I", 0}, {"z", "LA;", 0}, {"t", "[I", api.Static}},
			methods: []mem{{"run", "()V", 0}, {"m", "()V", 0}, {"s", "(J)I", api.Static}, {"<init>", "()V", 0}, {"<init>", "(J)V", 0}}},
		{name: "B", super: "A",
			fields:  []mem{{"y", "J", 0}, {"u", "LObject;", api.Static}, {"x", "I", 0}},
			methods: []mem{{"s", "(J)I", api.Static}, {"n", "()J", 0}}},
		{name: "D", super: "Object", fields: []mem{{"x", "I", api.Static}}},
	}
}

// finds asks for the member that one of the calls finds.
func finds(t *testing.T, call func(class, name, desc string) (api.Member, api.Errno), class, name, desc string, want api.Member) {
	t.Helper()
	want.Desc = desc
	if m, e := call(class, name, desc); m != want || e != api.OK {
		t.Errorf("of %q %q %q: %v, %d; want %v", class, name, desc, m, e, want)
	}
}

// misses asks that one of the calls finds nothing.
func misses(t *testing.T, call func(class, name, desc string) (api.Member, api.Errno), class, name, desc string, want api.Errno) {
	t.Helper()
	if m, e := call(class, name, desc); m != (api.Member{}) || e != want {
		t.Errorf("of %q %q %q: %v, %d; want none, %d", class, name, desc, m, e, want)
	}
}

func TestField(t *testing.T) { // P9.2: in the class, above, in both, in none
	p := takes(t, family()...)
	finds(t, p.Field, "C", "x", "I", api.Member{Class: 13, Slot: 5 - 1})
	finds(t, p.Field, "C", "y", "[J", api.Member{Class: 13, Place: 2, Slot: 5})
	finds(t, p.Field, "C", "x", "J", api.Member{Class: 13, Place: 3, Static: true, Slot: 1})
	finds(t, p.Field, "C", "s", "J", api.Member{Class: 13, Place: 1, Static: true})
	finds(t, p.Field, "C", "s", "I", api.Member{Class: 14, Static: true, Slot: 2})
	finds(t, p.Field, "C", "z", "LA;", api.Member{Class: 14, Place: 2, Slot: 1})
	finds(t, p.Field, "C", "y", "J", api.Member{Class: 15, Slot: 2})
	finds(t, p.Field, "B", "x", "I", api.Member{Class: 15, Place: 2, Slot: 3})
	finds(t, p.Field, "A", "x", "I", api.Member{Class: 14, Place: 1})
	finds(t, p.Field, "B", "t", "[I", api.Member{Class: 14, Place: 3, Static: true, Slot: 3})
	finds(t, p.Field, "B", "u", "LObject;", api.Member{Class: 15, Place: 1, Static: true, Slot: 4})
	finds(t, p.Field, "D", "x", "I", api.Member{Class: 16, Static: true, Slot: 5})
	for _, x := range [][3]string{{"A", "y", "J"}, {"B", "y", "[J"}, {"C", "x", "[I"}, {"C", "X", "I"}, {"C", "m", "()V"}, {"D", "s", "I"}, {"None", "x", "I"}, {"", "x", "I"}, {"C", "", "I"}, {"C", "x", ""}, {"[LC;", "x", "I"}, {"LC;", "x", "I"}, {"c", "x", "I"}} {
		misses(t, p.Field, x[0], x[1], x[2], api.ErrMissing)
	}
	for _, b := range builtSpecs() {
		misses(t, p.Field, b.name, "x", "I", api.ErrMissing)
		misses(t, p.Field, b.name, "wait", "()V", api.ErrMissing)
	}
}

func TestLook(t *testing.T) { // P9.2: in the class, above, in both, in none; never <init>
	p := takes(t, family()...)
	finds(t, p.Look, "C", "m", "()V", api.Member{Class: 13})
	finds(t, p.Look, "B", "m", "()V", api.Member{Class: 14, Place: 1})
	finds(t, p.Look, "C", "s", "(J)I", api.Member{Class: 15, Static: true})
	finds(t, p.Look, "A", "s", "(J)I", api.Member{Class: 14, Place: 2, Static: true})
	finds(t, p.Look, "C", "n", "()J", api.Member{Class: 15, Place: 1})
	finds(t, p.Look, "C", "run", "()V", api.Member{Class: 14})
	finds(t, p.Look, "Thread", "run", "()V", api.Member{Class: 2, Place: 3})
	finds(t, p.Look, "C", "join", "()V", api.Member{Class: 2, Place: 2})
	finds(t, p.Look, "C", "notify", "()V", api.Member{Class: 13, Place: 3})
	finds(t, p.Look, "B", "notify", "()V", api.Member{Place: 2})
	finds(t, p.Look, "D", "notifyAll", "()V", api.Member{Place: 3})
	finds(t, p.Look, "Sys", "wait", "()V", api.Member{Place: 1})
	finds(t, p.Look, "StoreError", "wait", "()V", api.Member{Place: 1})
	finds(t, p.Look, "Sys", "write", "(J)V", api.Member{Class: 3, Place: 2, Static: true})
	finds(t, p.Look, "C", "main", "()V", api.Member{Class: 13, Place: 2, Static: true})
	for _, x := range [][3]string{{"A", "n", "()J"}, {"C", "n", "()I"}, {"C", "N", "()J"}, {"C", "x", "I"}, {"D", "run", "()V"}, {"D", "read", "()I"}, {"None", "m", "()V"}, {"", "m", "()V"}, {"C", "", "()V"}, {"C", "m", ""}, {"[LC;", "wait", "()V"}, {"Object", "run", "()V"}} {
		misses(t, p.Look, x[0], x[1], x[2], api.ErrMissing)
	}
	for n := range p.Len() {
		for _, desc := range []string{"()V", "(I)V", "(J)V"} {
			misses(t, p.Look, p.Name(n), "<init>", desc, api.ErrMissing)
		}
	}
}

func TestOwn(t *testing.T) { // P9.2: in the class alone, <init> too
	p := takes(t, family()...)
	finds(t, p.Own, "C", "m", "()V", api.Member{Class: 13})
	finds(t, p.Own, "C", "<init>", "(I)V", api.Member{Class: 13, Place: 1})
	finds(t, p.Own, "A", "<init>", "()V", api.Member{Class: 14, Place: 3})
	finds(t, p.Own, "A", "<init>", "(J)V", api.Member{Class: 14, Place: 4})
	finds(t, p.Own, "B", "s", "(J)I", api.Member{Class: 15, Static: true})
	for n, b := range builtSpecs() {
		for place, m := range b.methods {
			finds(t, p.Own, b.name, m.name, m.desc, api.Member{Class: n, Place: place, Static: m.flags == api.Static})
		}
	}
	for _, x := range [][3]string{{"C", "<init>", "()V"}, {"B", "<init>", "()V"}, {"C", "n", "()J"}, {"B", "m", "()V"}, {"A", "wait", "()V"}, {"A", "run", "()I"}, {"Thread", "wait", "()V"}, {"Sys", "<init>", "()V"}, {"NullError", "<init>", "(I)V"}, {"None", "m", "()V"}, {"", "m", "()V"}, {"C", "x", "I"}, {"C", "", ""}} {
		misses(t, p.Own, x[0], x[1], x[2], api.ErrMissing)
	}
}

func TestSlots(t *testing.T) { // P9.2, P9.4: the order of what objects have, and of what is static
	p := takes(t, family()...)
	i, j := api.Type{K: api.KInt}, api.Type{K: api.KLong}
	js := api.Type{K: api.KArray, Dims: 1, Elem: api.KLong}
	is := api.Type{K: api.KArray, Dims: 1, Elem: api.KInt}
	ref := func(name string) api.Type { return api.Type{K: api.KRef, Name: name} }
	for n, want := range map[int][]api.Type{13: {i, ref("A"), j, i, i, js}, 14: {i, ref("A")}, 15: {i, ref("A"), j, i}, 16: nil, 0: nil, 2: nil, 12: nil, -1: nil, 17: nil} {
		if got := p.Slots(n); !slices.Equal(got, want) {
			t.Errorf("Slots(%d): %v; want %v", n, got, want)
		}
	}
	if want := []api.Type{j, j, i, is, ref("Object"), i}; !slices.Equal(p.Statics(), want) {
		t.Errorf("Statics: %v; want %v", p.Statics(), want)
	}
	if m := p.Main(); m != (api.Member{Class: 13, Place: 2, Desc: "()V", Static: true}) {
		t.Errorf("Main: %v", m)
	}
}

func TestSlotsMost(t *testing.T) { // P9.2, the limits: as many fields and methods as there may be, of as many classes
	for _, flags := range []func(i int) int{
		func(int) int { return 0 },
		func(int) int { return api.Static },
		func(i int) int { return i % 3 / 2 * api.Static },
	} {
		l := chain(api.MaxClasses)
		for n := range l {
			for i := range api.MaxMembers {
				l[n].fields = append(l[n].fields, mem{"f" + strconv.Itoa(i), []string{"I", "J", "[LA;"}[(i+n)%3], flags(i)})
				l[n].methods = append(l[n].methods, mem{"m" + strconv.Itoa(i), "()V", flags(i)})
			}
			l[n].methods = l[n].methods[:api.MaxMembers]
		}
		p := build(t, l...)
		x := modelOf(l)
		last := firstOwn + api.MaxClasses - 1
		if !slices.Equal(p.Slots(last), x.slots(last)) || !slices.Equal(p.Statics(), x.statics()) || len(p.Slots(last))+len(p.Statics()) != api.MaxClasses*api.MaxMembers {
			t.Errorf("%d and %d slots", len(p.Slots(last)), len(p.Statics()))
		}
		for n := range l {
			for place, f := range l[n].fields {
				m, e := p.Field(l[n].name, f.name, f.desc)
				of := p.Slots(m.Class)
				if m.Static {
					of = p.Statics()
				}
				if e != api.OK || m.Class != firstOwn+n || m.Place != place || m.Slot != x.slotOf(m.Class, place) || of[m.Slot] != x.typesOf([]int{m.Class}, f.flags)[countAhead(l[n].fields, place)] {
					t.Errorf("Field of %d, %d: %v, %d", n, place, m, e)
				}
			}
		}
	}
}

// countAhead tells how many fields of l are ahead of that place, and Static or not just as the one there.
func countAhead(l []mem, place int) int {
	n := 0
	for _, f := range l[:place] {
		if f.flags == l[place].flags {
			n++
		}
	}
	return n
}

func TestSamePools(t *testing.T) { // P9.2: texts count, and not where they stand in a pool
	l := family()
	for i := range l {
		l[i].spare = 7 * i
	}
	takes(t, l...)
	c := first(mem{"m", "()V", 0}).class()
	c.Methods[1].Desc = c.Methods[0].Desc // one text for both
	p, e := link.Build([]api.Class{c})
	if e != api.OK {
		t.Fatalf("Build: %d", e)
	}
	finds(t, p.Own, "A", "m", "()V", api.Member{Class: 13, Place: 1})
}
