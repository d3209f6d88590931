package kind_test

import (
	"math/rand"
	"slices"
	"strings"
	"testing"

	"understudy/api"
	"understudy/kind"
)

func TestMethodParams(t *testing.T) { // P8.1: none, MaxParams and one more, in order
	readsMethodTo(t, "()V", nil, api.Type{K: api.KVoid}, api.OK)
	some := []string{"I", "J", "LA;", "[I", "[[[[LB;", "L" + long(api.MaxName) + ";"}
	for n := range 3 * api.MaxParams {
		var mixed strings.Builder
		var types []api.Type
		for i := range n {
			mixed.WriteString(some[(i+n)%len(some)])
			types = append(types, of(t, some[(i+n)%len(some)]))
		}
		for _, answer := range []string{"V", "I", "[LA;"} {
			readsMethod(t, "("+mixed.String()+")"+answer)
			if n > api.MaxParams {
				refusesMethod(t, "("+mixed.String()+")"+answer)
			} else if l, _, e := kind.Method("(" + mixed.String() + ")" + answer); !slices.Equal(l, types) || e != api.OK {
				t.Errorf("Method of %d parameters: %#v, %d", n, l, e)
			}
		}
		for _, s := range some {
			desc := "(" + strings.Repeat(s, n) + ")J"
			readsMethod(t, desc)
			if n > api.MaxParams {
				refusesMethod(t, desc)
				continue
			}
			readsMethodTo(t, desc, slices.Repeat([]api.Type{of(t, s)}, n), api.Type{K: api.KLong}, api.OK)
		}
	}
	refusesMethod(t, "("+strings.Repeat("I", 1<<20)+")V")
}

func TestMethodAnswer(t *testing.T) { // P8.1: V, and each field's descriptor
	for s, x := range descriptors(goodNames()...) {
		readsMethodTo(t, "()"+s, nil, x, api.OK)
		readsMethodTo(t, "(I[LA;)"+s, []api.Type{{K: api.KInt}, {K: api.KArray, Dims: 1, Elem: api.KRef, Name: "A"}}, x, api.OK)
		refusesMethod(t, "()"+s+"V")
		refusesMethod(t, "()V"+s)
		refusesMethod(t, "()"+s+s)
		refusesMethod(t, "()"+s+"\x00")
		refusesMethod(t, "()"+s+"()V")
		refusesMethod(t, s+"()V")
		refusesMethod(t, "()["+"V")
		if s == "V" {
			refusesMethod(t, "(V)V")
			refusesMethod(t, "(IV)I")
			refusesMethod(t, "(VI)I")
			refusesMethod(t, "([V)I")
			continue
		}
		readsMethodTo(t, "("+s+")V", []api.Type{x}, api.Type{K: api.KVoid}, api.OK)
		readsMethodTo(t, "("+s+s+")"+s, []api.Type{x, x}, x, api.OK)
	}
}

func TestMethodWrong(t *testing.T) { // P8.1: what misses, what is there twice, and what stands behind
	for _, s := range []string{"", "(", ")", "V", "I", "()", "(I", "(I)", "I)V", ")V", "(V", "()VV", "()II", "()IV", "()I)", "(()V", "())V", "((I)V", "(I))V", "(I)(I)V", "()V()V", "[()V", "(I V", "( )V", " ()V", "()V ", "()v", "(i)V", "([)V", "(L;)V", "(LA)V", "(LA)V;", "(L)V", "(I;)V", "([[[[[I)V", "()[[[[[I", "()L;", "()LA", "()[", "(LA;", "(LA;)", "(LA;V", "(LA;)LB", "I()", "I(I)V"} {
		refusesMethod(t, s)
	}
	for b := range 256 {
		c := string([]byte{byte(b)})
		for _, s := range []string{c, c + ")V", c + "I)V", "(" + c + "V", "(I" + c + "V", "(" + c, "(I)" + c, "(I)V" + c, c + "(I)V", "(" + c + ")V", "(I" + c + ")V", "(" + c + "I)V", "(LA" + c + ")V", "(LA;)LB" + c} {
			readsMethod(t, s)
		}
	}
}

func TestMethodErrsByFields(t *testing.T) { // P8.1: what a field's descriptor errs by, in each place
	wrong := []string{"[[[[[", "[[[[[I", "[[[[[LA;", "[V", "L;", "[L;", "A", ";"}
	for _, n := range spoilt() {
		if !strings.Contains(n, ";") { // with it there may be another right descriptor
			wrong = append(wrong, "L"+n+";", "[L"+n+";")
		}
	}
	for _, s := range append(wrong, "V") { // V is none of a parameter, though one of an answer
		for at := range api.MaxParams {
			for _, n := range []int{at, api.MaxParams - 1} {
				params := slices.Repeat([]string{"LB;"}, n)
				refusesMethod(t, "("+strings.Join(slices.Insert(params, at, s), "")+")V")
			}
		}
	}
	for _, s := range wrong {
		refusesMethod(t, "()"+s)
		refusesMethod(t, "(I)"+s)
		refusesMethod(t, "("+strings.Repeat("J", api.MaxParams)+")"+s)
	}
	for _, s := range []string{"[", "[[[[", "L", "LA"} { // wrong at the end alone: ahead of another one it is its beginning
		refusesMethod(t, "("+s+")V")
		refusesMethod(t, "(I"+s+")V")
		refusesMethod(t, "(LA;"+s+")V")
		refusesMethod(t, "()"+s)
		readsMethod(t, "("+s+"I)V")
		readsMethod(t, "("+s+"LB;)V")
		readsMethod(t, "("+s+"[LB;)V")
	}
	for _, n := range []string{")", "(", "()V", ")V", "V"} { // a name may have what the brackets are made of
		readsMethodTo(t, "(L"+n+";)L"+n+";", []api.Type{{K: api.KRef, Name: n}}, api.Type{K: api.KRef, Name: n}, api.OK)
		refusesMethod(t, "(L"+n+";")
		refusesMethod(t, "(L"+n+";L"+n)
	}
}

func TestMethodOfSmallTexts(t *testing.T) { // P8.1: all texts of few bytes, and longer ones by chance
	eachText("()IVLA;[", 6, func(s string) { readsMethod(t, s) })
	eachText("IVL;[)", 5, func(s string) { readsMethod(t, "("+s+")V"); readsMethod(t, "(I)"+s); readsMethod(t, "("+s) })
	chance := rand.New(rand.NewSource(9))
	parts := []string{"I", "J", "[I", "[", "LA;", "LOb;", "[[LA;", "L" + long(api.MaxName) + ";", "J", "I", "I", "[J"}
	for range 50000 {
		var s strings.Builder
		s.WriteString("(")
		for range chance.Intn(api.MaxParams + 4) {
			s.WriteString(parts[chance.Intn(len(parts))])
		}
		s.WriteString(")" + []string{"V", "I", "[J", "LA;", "", "VV"}[chance.Intn(6)])
		b := []byte(s.String())
		if chance.Intn(3) == 0 {
			b[chance.Intn(len(b))] = "()IVL;[A."[chance.Intn(9)]
		}
		readsMethod(t, string(b))
	}
}

func TestMethodIsNew(t *testing.T) { // P4, P5: lists that are answered are new memory
	want, _, _ := methodByHand("(I[JLA;LB;I)V")
	first, _, _ := kind.Method("(I[JLA;LB;I)V")
	second, _, _ := kind.Method("(I[JLA;LB;I)V")
	clear(first[:cap(first)])
	if !slices.Equal(second, want) {
		t.Errorf("%#v; want %#v", second, want)
	}
	clear(second[:cap(second)])
	readsMethodTo(t, "(I[JLA;LB;I)V", want, api.Type{K: api.KVoid}, api.OK)
	for range 3 {
		TestExamples(t)
		refusesMethod(t, "(V)V")
		refuses(t, "V")
	}
}
