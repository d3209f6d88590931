package link_test

import (
	"slices"
	"strconv"
	"strings"
	"testing"

	"understudy/api"
)

// ofField answers a list with a class of those fields.
func ofField(fields ...mem) []spec {
	return []spec{first(), {name: "B", super: "A", fields: fields}}
}

// ofMethod answers a list with a class of those methods.
func ofMethod(methods ...mem) []spec {
	return []spec{first(), {name: "B", super: "A", methods: methods}}
}

// badDescs are descriptors of nothing.
func badDescs() []string {
	l := []string{"", "X", "i", "L", "L;", "LA", "[", "[[[[", "[V", "[[[[[I", "[[[[[LA;", "II", "IJ", "I ", " I", "I;", "LA;;", "(", ")", "()", "(I)", "()VV", "()V ", "(V)V", "([V)V", "()[V", "()[[[[[I", "([[[[[I)V", "(I", "(LA)V", "(L;)V", "()L;", "((I)V)V"}
	for _, b := range badBytes {
		l = append(l, "L"+string(b)+";", "LA"+string(b)+"B;", "(LA"+string(b)+"B;)V", "()L"+string(b)+"A;")
	}
	return append(l, "("+strings.Repeat("I", api.MaxParams+1)+")V", "("+strings.Repeat("[J", api.MaxParams+1)+")I")
}

// fieldDescs are right ones of fields: their classes need not be there.
func fieldDescs() []string {
	return []string{"I", "J", "LA;", "LB;", "LObject;", "LNone;", "LI;", "[I", "[[J", "[[[LSys;", "[[[[I", "[[[[LNone;", "L" + strings.Repeat("n", api.MaxName-2) + ";", "L\u00E9;"}
}

// methodDescs are right ones of methods.
func methodDescs() []string {
	l := []string{"()V", "()I", "()J", "(" + strings.Repeat("I", api.MaxParams) + ")V", "(" + strings.Repeat("[J", api.MaxParams) + ")LNone;"}
	for _, d := range fieldDescs()[:12] {
		l = append(l, "("+d+")V", "()"+d, "(I"+d+"J"+d+")"+d)
	}
	return l
}

func TestDescriptors(t *testing.T) { // P9.1: a field's are those of fields, a method's those of methods
	for _, flags := range []int{0, api.Static} {
		for _, d := range badDescs() {
			refuses(t, ofField(mem{"f", d, flags})...)
			refuses(t, ofMethod(mem{"f", d, flags})...)
			refuses(t, ofField(mem{"e", "I", 0}, mem{"f", d, flags}, mem{"g", "I", 0})...)
			refuses(t, ofMethod(mem{"e", "()I", 0}, mem{"f", d, flags}, mem{"g", "()I", 0})...)
			refuses(t, first(mem{"f", d, flags}))
			refuses(t, first(mem{"<init>", d, flags}))
		}
		for _, d := range fieldDescs() {
			takes(t, ofField(mem{"f", d, flags})...)
			refuses(t, ofMethod(mem{"f", d, flags})...)
		}
		for _, d := range methodDescs() {
			takes(t, ofMethod(mem{"f", d, flags})...)
			refuses(t, ofField(mem{"f", d, flags})...)
		}
		refuses(t, ofField(mem{"f", "V", flags})...)
		refuses(t, ofMethod(mem{"f", "V", flags})...)
	}
}

func TestMemberNames(t *testing.T) { // P9.1: names of fields and of methods
	for _, flags := range []int{0, api.Static} {
		for _, n := range badNames() {
			refuses(t, ofField(mem{n, "I", flags})...)
			refuses(t, ofMethod(mem{n, "()V", flags})...)
			refuses(t, ofField(mem{"e", "I", 0}, mem{n, "I", flags}, mem{"g", "I", 0})...)
			refuses(t, ofMethod(mem{"e", "()I", 0}, mem{n, "()I", flags}, mem{"g", "()I", 0})...)
			refuses(t, first(mem{n, "()V", flags}))
		}
		for _, n := range goodNames() {
			takes(t, first(), spec{name: "B", super: "A", fields: []mem{{n, "I", flags}}, methods: []mem{{n, "()V", flags}}})
		}
		refuses(t, ofField(mem{"<init>", "I", flags})...)
		refuses(t, ofField(mem{"<init>", "()V", flags})...)
	}
}

func TestInit(t *testing.T) { // P9.1: what begins an object is not Static, and answers nothing
	for _, d := range methodDescs() {
		refuses(t, ofMethod(mem{"<init>", d, api.Static})...)
		refuses(t, first(mem{"<init>", d, api.Static}))
		if strings.HasSuffix(d, ")V") {
			takes(t, ofMethod(mem{"<init>", d, 0})...)
			takes(t, first(mem{"<init>", d, 0}))
			takes(t, first(mem{"<init>", d, 0}), spec{name: "B", super: "A", methods: []mem{{"<init>", d, 0}}})
			refuses(t, ofMethod(mem{"<init>", d, 0}, mem{"<init>", d, 0})...)
			continue
		}
		refuses(t, ofMethod(mem{"<init>", d, 0})...)
		refuses(t, first(mem{"<init>", d, 0}))
	}
	takes(t, ofMethod(mem{"<init>", "()V", 0}, mem{"<init>", "(I)V", 0}, mem{"<init>", "(J)V", 0})...)
}

func TestMembersTwice(t *testing.T) { // P9.1: names with a descriptor stand once in a class
	for _, flags := range []int{0, api.Static} {
		for _, other := range []int{0, api.Static} {
			refuses(t, ofField(mem{"f", "I", flags}, mem{"f", "I", other})...)
			refuses(t, ofField(mem{"f", "I", flags}, mem{"g", "I", 0}, mem{"f", "J", 0}, mem{"f", "I", other})...)
			takes(t, ofField(mem{"f", "I", flags}, mem{"f", "J", other}, mem{"f", "[I", flags}, mem{"F", "I", other})...)
			refuses(t, ofMethod(mem{"f", "()I", flags}, mem{"f", "()I", other})...)
			refuses(t, ofMethod(mem{"f", "()I", flags}, mem{"g", "()I", 0}, mem{"f", "()J", 0}, mem{"f", "()I", other})...)
			takes(t, ofMethod(mem{"f", "()I", flags}, mem{"f", "()J", other}, mem{"f", "(I)I", flags}, mem{"F", "()I", other})...)
			takes(t, first(), spec{name: "B", super: "A", fields: []mem{{"f", "I", flags}}, methods: []mem{{"f", "()I", other}}})
			takes(t, first(), spec{name: "B", super: "A", fields: []mem{{"f", "I", flags}}}, spec{name: "C", super: "B", fields: []mem{{"f", "I", other}}})
		}
	}
	refuses(t, first(mainMem))
	refuses(t, first(mem{"main", "()V", 0}))
	var many []mem
	for i := range api.MaxMembers {
		many = append(many, mem{"f" + strconv.Itoa(i), "I", 0})
	}
	takes(t, ofField(many...)...)
	for _, at := range []int{0, 1, 31, 62} {
		twice := slices.Clone(many)
		twice[63] = many[at]
		refuses(t, ofField(twice...)...)
		for i := range twice {
			twice[i].desc = "()I"
		}
		refuses(t, ofMethod(twice...)...)
	}
}

func TestStaticAsAbove(t *testing.T) { // P9.1: over one class and over several, with each class on the way behind or ahead of the others
	flags := []int{0, api.Static}
	for between := range 4 {
		for _, turned := range []bool{false, true} {
			for _, above := range flags {
				for _, below := range flags {
					l := chain(between + 3)
					l[1].methods = []mem{{"x", "()V", 0}, {"m", "(I)J", above}}
					l[between+2].methods = []mem{{"m", "(I)J", below}, {"y", "()V", api.Static}}
					if turned {
						slices.Reverse(l[1:])
					}
					if above == below {
						takes(t, l...)
					} else {
						refuses(t, l...)
					}
				}
			}
		}
	}
	for _, near := range flags { // the nearest one tells no other than the farther one
		for _, far := range flags {
			for _, below := range flags {
				l := []spec{first(mem{"m", "()V", far}), {name: "B", super: "A", methods: []mem{{"m", "()V", near}}}, {name: "C", super: "B", methods: []mem{{"m", "()V", below}}}}
				if far == near && near == below {
					takes(t, l...)
				} else {
					refuses(t, l...)
				}
			}
		}
	}
}

func TestStaticAsBuiltIn(t *testing.T) { // P9.1: what is built in counts as any class above
	for _, super := range []string{"Object", "Thread", "Throwable", "SizeError"} {
		for _, b := range builtSpecs() {
			for _, m := range b.methods {
				for _, flags := range []int{0, api.Static} {
					isAbove := b.name == "Object" || b.name == super || b.name == "Throwable" && super == "SizeError"
					l := [][]spec{
						{{name: "A", super: super, methods: []mem{mainMem, {m.name, m.desc, flags}}}},
						{first(), {name: "B", super: super}, {name: "C", super: "B", methods: []mem{{m.name, m.desc, flags}}}},
						{first(), {name: "C", super: "B", methods: []mem{{m.name, m.desc, flags}}}, {name: "B", super: super}},
					}
					for _, x := range l {
						if flags != m.flags && (isAbove || m.name == "<init>") {
							refuses(t, x...)
						} else {
							takes(t, x...)
						}
					}
				}
			}
		}
	}
}

func TestStaticNotAsked(t *testing.T) { // P9.1: of methods with another descriptor or name, of classes that are not above, and of fields
	for _, flags := range []int{0, api.Static} {
		other := api.Static - flags
		takes(t, first(mem{"m", "()V", flags}), spec{name: "B", super: "A", methods: []mem{{"m", "()I", other}, {"m", "(I)V", other}, {"M", "()V", other}}})
		takes(t, first(), spec{name: "B", super: "A", methods: []mem{{"m", "()V", flags}}}, spec{name: "C", super: "A", methods: []mem{{"m", "()V", other}}})
		takes(t, first(), spec{name: "B", super: "A", fields: []mem{{"f", "I", flags}, {"wait", "I", api.Static}}}, spec{name: "C", super: "B", fields: []mem{{"f", "I", other}}})
		takes(t, first(mem{"wait", "(J)V", flags}, mem{"wait", "()I", flags}, mem{"run", "()V", flags}, mem{"read", "()I", flags}))
	}
	refuses(t, first(), spec{name: "B", super: "A", methods: []mem{{"main", "()V", 0}}})
	takes(t, first(), spec{name: "B", super: "Object", methods: []mem{{"main", "()V", 0}}})
}
