package verify_test

import (
	"fmt"
	"strconv"
	"strings"
	"testing"

	"understudy/api"
	"understudy/link"
	"understudy/verify"
)

func TestExamples(t *testing.T) { // the chapter's examples, and DOC.md's sixth one (the first five stand in the tests of the packages below)
	for text, e := range map[string]api.Errno{
		"+main ()V 1 0; iconst_0; pop; return": api.OK,
		"+main ()V 0 0; iconst_0; pop; return": api.ErrDepth,
		"+main ()V 1 0; iconst_0; return":      api.OK,
		"+main ()V 0 0; iconst_0; return":      api.ErrDepth,
	} {
		l := classesOf([]spec{{"Main", "Object", nil, []string{text}}})
		p := build(t, l)
		if got := verify.Method(p, firstOwn, 0); got != e {
			t.Errorf("Method of %s: %d, want %d", text, got, e)
		}
		loads(t, filesOf(t, l), e)
	}
}

// unmade are programs that no call made.
func unmade() []*link.Program { return []*link.Program{nil, {}, new(link.Program)} }

func TestUnmade(t *testing.T) { // P12.1, P12.2, P1, P2: ErrZero ahead of no such method
	for _, p := range unmade() {
		for _, class := range ends() {
			for _, method := range ends() {
				if e := verify.Method(p, class, method); e != api.ErrZero {
					t.Errorf("Method(%d, %d): %d", class, method, e)
				}
			}
		}
		tells(t, p, -1, -1, api.ErrZero)
	}
}

func TestNoSuchMethod(t *testing.T) { // P12.1, P6: all methods of the list, and no other
	l := classesOf(family())
	p := build(t, l)
	for _, class := range ends() {
		for _, method := range ends() {
			want := api.ErrMissing
			if n := class - firstOwn; n >= 0 && n < len(l) && method >= 0 && method < len(l[n].Methods) {
				want = api.OK
			}
			if e := verify.Method(p, class, method); e != want {
				t.Errorf("Method(%d, %d): %d, want %d", class, method, e, want)
			}
		}
	}
	for class, n := range map[int]int{0: 4, 1: 1, 2: 4, 3: 3, 4: 1, 12: 1} { // those that are built in
		for method := range n {
			if e := verify.Method(p, class, method); e != api.ErrMissing {
				t.Errorf("Method(%d, %d): %d", class, method, e)
			}
		}
	}
	for _, x := range []struct{ class, method int }{{13, -1}, {13, 2}, {14, 2}, {15, 1}, {16, 2}, {17, 0}, {12, 0}, {-1, 0}} {
		if e := verify.Method(p, x.class, x.method); e != api.ErrMissing {
			t.Errorf("Method(%d, %d): %d", x.class, x.method, e)
		}
	}
}

func TestLocals(t *testing.T) { // P12.1: this and the types of the descriptor, one more than Locals and just as many; a long counts as one, what is answered does not
	sixteen := strings.Repeat("I", api.MaxParams)
	for _, x := range []struct {
		name, desc string
		need       int
	}{
		{"+m", "()V", 0}, {"+m", "(I)V", 1}, {"+m", "(J)V", 1}, {"+m", "(JJ)V", 2}, {"+m", "(LA~)V", 1}, {"+m", "([[LB~I[J)V", 3}, {"+m", "(LNone~)V", 1}, {"+m", "(" + sixteen + ")V", 16}, {"+m", "([[[[ILI~J)V", 3},
		{"m", "()V", 1}, {"m", "(I)V", 2}, {"m", "(J)V", 2}, {"m", "(JJ)V", 3}, {"m", "([LA~)V", 2}, {"m", "(" + sixteen + ")V", 17},
	} {
		for locals := range api.MaxSlots + 1 {
			want := api.ErrLocal
			if locals >= x.need {
				want = api.OK
			}
			gives(t, fmt.Sprint(x.name, " ", x.desc, " 0 ", locals, "; return"), want)
		}
	}
	for _, x := range []example{
		{"<init> (I)V 1 0", api.ErrLocal}, {"<init> (I)V 1 1", api.ErrLocal}, {"<init> (I)V 1 2", api.OK}, {"<init> (I)V 1 3", api.OK}, {"<init> (JJ)V 1 2", api.ErrLocal}, {"<init> (JJ)V 1 3", api.OK},
	} {
		gives(t, x.text+"; aload_0; invokespecial Object.<init>()V; return", x.e)
	}
	give(t, "+m ()J 1 0", []example{{"lconst_0; lreturn", api.OK}})
	give(t, "+m ()[[J 1 0", []example{{"aconst_null; areturn", api.OK}})
	give(t, "m (J)J 1 1", []example{{"lconst_0; lreturn", api.ErrLocal}})
	give(t, "m (J)J 1 2", []example{{"lconst_0; lreturn", api.OK}, {"lload_1; lreturn", api.OK}, {"lload_0; lreturn", api.ErrType}, {"lload_2; lreturn", api.ErrLocal}})
}

func TestErrorsOfFlow(t *testing.T) { // P12.1: flow.Check's errors
	give(t, "+m ()V 9 1", []example{
		{"code C9", api.ErrOp}, {"code FF", api.ErrOp}, {"code 00 0B", api.ErrOp}, {"return; code C8", api.ErrOp},
		{"code 10", api.ErrShort}, {"code 11 00", api.ErrShort}, {"return; code 84 00", api.ErrShort}, {"return; code A7 00", api.ErrShort},
		{"nop", api.ErrFlow}, {"iconst_0", api.ErrFlow}, {"return; nop", api.ErrFlow}, {"x: iconst_0; ifeq x; map x T |", api.ErrFlow}, {"aload_0", api.ErrFlow},
		{"code A7 00 01; return", api.ErrFlow}, {"code A7 FF FF; return", api.ErrFlow}, {"goto end", api.ErrFlow}, {"sipush 9; goto 1", api.ErrFlow}, {"iconst_0; ifeq 2; return", api.ErrFlow}, {"iconst_0; ifeq 5; return", api.ErrFlow},
		{"iconst_0; pop; return; trap 0 1 1", api.ErrFrame}, {"sipush 0; return; trap 1 4 3", api.ErrFlow}, {"sipush 0; return; trap 0 1 3", api.ErrFlow}, {"sipush 0; return; trap 0 4 2", api.ErrFlow}, {"sipush 0; return; trap 0 3 2", api.ErrFlow}, {"sipush 0; return; trap 0 3 1 E", api.ErrFlow},
	})
}

func TestErrorsOfDecode(t *testing.T) { // P12.1: maps.Decode's errors; map 0 has one local KTop, and nothing on the stack
	give(t, "+m ()V 2 1", []example{
		{"return", api.OK}, {"return; maps 00 00", api.OK}, {"return; maps 00 01 FF 00 00 00 01 00 00 00", api.OK},
		{"return; maps 00", api.ErrShort}, {"return; maps 00 01", api.ErrShort}, {"return; maps 00 01 FF 00 00 00 01 00 00", api.ErrShort}, {"return; maps 00 02 FF 00 00 00 01 00 00 00", api.ErrShort}, {"return; maps 00 01 FF 00", api.ErrShort}, {"return; maps 00 01 FF 00 00 00 01 07 00", api.ErrShort},
		{"return; maps 00 00 00", api.ErrMaps}, {"return; maps 00 01 FE 00 00 00 01 00 00 00", api.ErrMaps}, {"return; maps 00 01 FF 00 00 00 01 02 00 00", api.ErrMaps}, {"return; maps 00 01 FF 00 00 00 01 07 00 00 00 00", api.ErrMaps}, {"return; maps 00 01 FF 00 00 00 01 00 00 00 00", api.ErrMaps}, {"return; maps 00 01 FF 10 01 00 01 00 00 00", api.ErrMaps}, {"return; maps 00 01 FF 00 00 00 41", api.ErrMaps}, {"return; maps 00 01 FF 00 00 00 01 08 10 01 00 00", api.ErrMaps}, {"return; maps 00 01 FF 00 00 00 01 07 00 01 00 00", api.ErrMaps}, {"return; maps 00 01 FF 00 00 00 01 09 00 00", api.ErrMaps},
	})
}

func TestPlacesOfMaps(t *testing.T) { // P12.1: at each beginning, in the middle of an instruction, at the code's end, beyond it
	right := map[int]string{0: "T |", 3: "T | I", 4: "T |", 5: "T | I", 6: "I |", 9: "I |", 12: "I | I"}
	for at := range 40 {
		frame, begins := right[at]
		want := api.OK
		if !begins {
			frame, want = "T |", api.ErrMaps
		}
		gives(t, fmt.Sprint("+m ()V 1 1; sipush 9; pop; iconst_0; istore_0; iinc 0 1; sipush 7; return; map ", at, " ", frame), want)
	}
	for _, at := range []int{13, 14, 255, 256, 4095, 4096} {
		gives(t, fmt.Sprint("+m ()V 1 1; sipush 9; pop; iconst_0; istore_0; iinc 0 1; sipush 7; return; map ", at, " T |"), api.ErrMaps)
	}
	give(t, "+m ()V 1 0", []example{ // one of several
		{"sipush 9; pop; return; map 0 |; map 3 | I; map 4 |", api.OK}, {"sipush 9; pop; return; map 0 |; map 1 |; map 3 | I; map 4 |", api.ErrMaps}, {"sipush 9; pop; return; map 0 |; map 2 |", api.ErrMaps}, {"sipush 9; pop; return; map 3 | I; map 4 |; map 5 |", api.ErrMaps}, {"sipush 9; pop; return; map 1 |; map 3 | I", api.ErrMaps},
		{"goto x; bipush 0; x: return; map 3 |; map x | I", api.ErrFrame}, {"goto x; bipush 0; pop; x: return; map 3 |; map x |", api.OK}, {"goto x; bipush 0; pop; x: return; map 4 |; map x |", api.ErrMaps},
	})
}

func TestLocalsOfMaps(t *testing.T) { // P12.1: as many as Locals, neither less nor more, whether a frame comes or not
	for locals := range 5 {
		for n := range 7 {
			want := api.OK
			if n != locals {
				want = api.ErrMaps
			}
			frame := strings.Repeat("T ", n) + "|"
			head := "+m ()V 0 " + strconv.Itoa(locals)
			gives(t, head+"; return; map 0 "+frame, want)
			gives(t, head+"; nop; return; map 1 "+frame, want)
			gives(t, head+"; return; x: return; map x "+frame, want)
		}
	}
	for n := api.MaxSlots - 1; n <= api.MaxSlots; n++ {
		want := api.OK
		if n < api.MaxSlots {
			want = api.ErrMaps
		}
		gives(t, "+m ()V 0 64; return; map 0 "+strings.Repeat("T ", n)+"|", want)
	}
}

func TestStacksOfMaps(t *testing.T) { // P12.1: one more than Stack, and just as many, of a place where no frame comes
	for stack := range 5 {
		for n := range 7 {
			want := api.OK
			if n > stack {
				want = api.ErrMaps
			}
			gives(t, fmt.Sprint("+m ()V ", stack, " 0; return; x: return; map x | ", strings.Repeat("I ", n)), want)
		}
	}
	for stack := api.MaxSlots - 1; stack <= api.MaxSlots; stack++ {
		want := api.OK
		if stack < api.MaxSlots {
			want = api.ErrMaps
		}
		gives(t, fmt.Sprint("+m ()V ", stack, " 0; return; x: return; map x | ", strings.Repeat("J ", api.MaxSlots)), want)
	}
	give(t, "+m ()V 1 0", []example{
		{"iconst_0; x: pop; return; map x | I", api.OK}, {"iconst_0; x: pop; return; map x | I I", api.ErrMaps}, {"iconst_0; x: pop; return; map x |", api.ErrFrame},
	})
}

func TestLimits(t *testing.T) { // the limits, at which all is as below: bytes of code, traps, locals, what stands on the stack
	var b strings.Builder
	b.WriteString("+m ()V 64 64")
	for range api.MaxSlots {
		b.WriteString("; iconst_0")
	}
	for n := range api.MaxSlots {
		b.WriteString("; istore " + strconv.Itoa(n))
	}
	code := 3 * api.MaxSlots
	for ; code < api.MaxCode-2; code++ {
		b.WriteString("; nop")
	}
	b.WriteString("; return; x: return; map x " + strings.Repeat("T ", api.MaxSlots) + "| Throwable")
	for range api.MaxMembers {
		b.WriteString("; trap 0 x x")
	}
	text := b.String()
	gives(t, text, api.OK)
	gives(t, strings.Replace(text, "64 64", "63 64", 1), api.ErrDepth)
	gives(t, strings.Replace(text, "| Throwable", "| DivError", 1), api.ErrFrame)
	gives(t, strings.Replace(text, "return; x: return", "return; x: pop", 1), api.ErrFlow)
	gives(t, strings.Replace(text, "return; x: return", "nop; x: return", 1), api.ErrFrame)
	gives(t, text+" E", api.OK)
	gives(t, text+" A", api.ErrFrame)
}
