package kind_test

import (
	"math/rand"
	"strings"
	"testing"

	"understudy/api"
	"understudy/kind"
)

func TestExamples(t *testing.T) { // the chapter's examples, and the fifth of the whole
	readsTo(t, "[[J", api.Type{K: api.KArray, Dims: 2, Elem: api.KLong}, api.OK)
	readsMethodTo(t, "(ILA;)V", []api.Type{{K: api.KInt}, {K: api.KRef, Name: "A"}}, api.Type{K: api.KVoid}, api.OK)
	stands(t, nil, of(t, "[[I"), of(t, "[LObject;"), true)
	stands(t, nil, of(t, "[I"), of(t, "[LObject;"), false)
}

func TestFieldOfOneByte(t *testing.T) { // P8.1: I, J, and no other byte alone; nothing behind it
	readsTo(t, "I", api.Type{K: api.KInt}, api.OK)
	readsTo(t, "J", api.Type{K: api.KLong}, api.OK)
	refuses(t, "")
	for b := range 256 {
		s := string([]byte{byte(b)})
		if s != "I" && s != "J" {
			refuses(t, s)
		}
		for _, whole := range []string{"I", "J", "LA;", "[I"} {
			reads(t, s+whole)
			reads(t, s+s+whole)
			refuses(t, whole+s)
		}
	}
}

func TestFieldOfClasses(t *testing.T) { // P8.1: names of one byte to MaxName, of the bytes that a name has
	for _, n := range goodNames() {
		if len(n) > api.MaxName {
			t.Fatalf("a name of %d bytes", len(n))
		}
		readsTo(t, "L"+n+";", api.Type{K: api.KRef, Name: n}, api.OK)
		refuses(t, "L"+n)
		reads(t, n+";") // which is right of a name that itself begins with L
		refuses(t, "l"+n+";")
		for _, behind := range []string{";", "I", "J", "V", "L", "LA;", "[", "[I", "\x00", "\n", "(", ")", ")V", " "} {
			refuses(t, "L"+n+";"+behind)
		}
	}
	for _, n := range spoilt() {
		refuses(t, "L"+n+";")
		refuses(t, "[L"+n+";")
		reads(t, "L"+n) // which is right of a name that is spoilt by ; at its end
	}
	for _, s := range []string{"L", "L;", ";", "LI", "LJ", "LL", "[L", "[L;", "[LA", "LA", "L<init>;", "La.b;", "La/b;", "L[A;", "L[I", "LA;B;", "LA;LB;"} {
		refuses(t, s)
	}
}

func TestFieldOfArrays(t *testing.T) { // P8.1: one dimension to MaxDims
	for dims := 1; dims <= 3*api.MaxDims; dims++ {
		opens := strings.Repeat("[", dims)
		for s, elem := range map[string]api.Type{"I": {K: api.KInt}, "J": {K: api.KLong}, "LA;": {K: api.KRef, Name: "A"}, "L" + long(api.MaxName) + ";": {K: api.KRef, Name: long(api.MaxName)}} {
			if dims > api.MaxDims {
				refuses(t, opens+s)
				continue
			}
			readsTo(t, opens+s, api.Type{K: api.KArray, Dims: dims, Elem: elem.K, Name: elem.Name}, api.OK)
			refuses(t, opens+s+s)
			refuses(t, opens+s+"[")
			refuses(t, s+opens)
		}
		for _, s := range []string{"", "V", "L", "L;", "LA", "LA[;", "A", ";", "(", ")", "(I)V"} {
			refuses(t, opens+s)
		}
	}
	refuses(t, strings.Repeat("[", 1<<20))
	refuses(t, strings.Repeat("[", 1<<20)+"I")
}

func TestFieldOfSmallTexts(t *testing.T) { // P8.1, P8.4: all texts of few bytes, and longer ones by chance
	few := "IJVLA;[/\xFF"
	eachText(few, 5, func(s string) { reads(t, s) })
	eachText("IL;[A", 7, func(s string) { reads(t, s) })
	chance := rand.New(rand.NewSource(8))
	parts := []string{"I", "J", "L", ";", "[", "[", "LA;", "LOb;", "L" + long(api.MaxName) + ";", "L" + long(api.MaxName+1) + ";", long(3), "."}
	for range 50000 {
		var s strings.Builder
		for range chance.Intn(7) {
			s.WriteString(parts[chance.Intn(len(parts))])
		}
		reads(t, s.String())
	}
}

func TestText(t *testing.T) { // P8.1, P8.4: each type that Field and Method answer
	for s, x := range descriptors(goodNames()...) {
		tells(t, x, s)
		if s != "V" {
			readsTo(t, s, x, api.OK)
		}
		if _, back, e := kind.Method("()" + s); back != x || e != api.OK {
			t.Errorf("Method of ()%.40q: %#v, %d", s, back, e)
		}
	}
}

func TestTextOfNone(t *testing.T) { // P8.1, P1, P6: types that none of them answers
	names := []string{"", "A", "Object", "A;", ";", "[A", "I", "V", long(api.MaxName), long(api.MaxName + 1)}
	known := descriptors("A", "Object", "I", "V", long(api.MaxName))
	descOf := map[api.Type]string{}
	for s, x := range known {
		descOf[x] = s
	}
	if len(descOf) != len(known) {
		t.Fatal("two descriptors of one type")
	}
	for _, k := range numbers() {
		for _, elem := range numbers() {
			for _, dims := range numbers() {
				for _, n := range names {
					x := api.Type{K: k, Name: n, Dims: dims, Elem: elem}
					tells(t, x, descOf[x])
				}
			}
		}
	}
	for _, x := range known {
		for _, at := range numbers() {
			if at != 0 {
				tells(t, api.Type{K: x.K, Name: x.Name, Dims: x.Dims, Elem: x.Elem, At: at}, "")
			}
		}
	}
}

func TestTextOfSpoilt(t *testing.T) { // P8.1: names that are none, and names where there are none
	tells(t, zero, "")
	for _, n := range spoilt() {
		tells(t, api.Type{K: api.KRef, Name: n}, "")
		for dims := -1; dims <= api.MaxDims+1; dims++ {
			tells(t, api.Type{K: api.KArray, Name: n, Dims: dims, Elem: api.KRef}, "")
		}
	}
	for _, n := range goodNames() {
		for _, k := range numbers() {
			if k != api.KRef {
				tells(t, api.Type{K: k, Name: n}, "")
				tells(t, api.Type{K: k, Name: n, Dims: 1}, "")
				tells(t, api.Type{K: api.KArray, Dims: 1, Elem: k, Name: n}, "")
			}
		}
	}
	for _, dims := range []int{0, -1, api.MaxDims + 1, 1 << 20, 1 << 40} {
		for _, elem := range []int{api.KInt, api.KLong, api.KRef, api.KArray, api.KVoid} {
			tells(t, api.Type{K: api.KArray, Name: "A", Dims: dims, Elem: elem}, "")
			tells(t, api.Type{K: api.KArray, Dims: dims, Elem: elem}, "")
		}
	}
}
