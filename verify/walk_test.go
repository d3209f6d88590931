package verify_test

import (
	"fmt"
	"strings"
	"testing"

	"understudy/api"
)

func TestFrameAhead(t *testing.T) { // P12.1: the frame from the instruction ahead is assignable to the map's, or is not: in a local, on the stack, in their number
	give(t, "+m (ILB~[LB~J)V 3 5", []example{
		{"nop; return; map 1 I B [B J T |", api.OK}, {"nop; return; map 1 T T T T T |", api.OK}, {"nop; return; map 1 I A [A J T |", api.OK}, {"nop; return; map 1 I Object Object J T |", api.OK}, {"nop; return; map 1 I B [Object J T |", api.OK},
		{"nop; return; map 1 J B [B J T |", api.ErrFrame}, {"nop; return; map 1 I F [B J T |", api.ErrFrame}, {"nop; return; map 1 I B [E J T |", api.ErrFrame}, {"nop; return; map 1 I B [B I T |", api.ErrFrame}, {"nop; return; map 1 I B [B J I |", api.ErrFrame}, {"nop; return; map 1 I B [B J N |", api.ErrFrame}, {"nop; return; map 1 I N [B J T |", api.ErrFrame}, {"nop; return; map 1 I B [I J T |", api.ErrFrame}, {"nop; return; map 1 I None [B J T |", api.ErrFrame},
		{"return; map 0 I B [B J T |", api.OK}, {"return; map 0 T A Object J T |", api.OK}, {"return; map 0 J B [B J T |", api.ErrFrame}, {"return; map 0 I B [B J T | I", api.ErrFrame},
	})
	give(t, "+m ()V 3 0", []example{
		{"iconst_0; x: return; map x | I", api.OK}, {"iconst_0; x: return; map x | T", api.OK}, {"iconst_0; x: return; map x | J", api.ErrFrame}, {"iconst_0; x: return; map x |", api.ErrFrame}, {"iconst_0; x: return; map x | I I", api.ErrFrame}, {"iconst_0; x: return; map x | N", api.ErrFrame},
		{"aconst_null; x: return; map x | N", api.OK}, {"aconst_null; x: return; map x | A", api.OK}, {"aconst_null; x: return; map x | [[A", api.OK}, {"aconst_null; x: return; map x | None", api.OK}, {"aconst_null; x: return; map x | I", api.ErrFrame},
		{"iconst_0; lconst_0; x: return; map x | I J", api.OK}, {"iconst_0; lconst_0; x: return; map x | J I", api.ErrFrame}, {"iconst_0; lconst_0; x: return; map x | I T", api.OK}, {"iconst_0; lconst_0; x: return; map x | J", api.ErrFrame}, {"iconst_0; lconst_0; x: return; map x | I", api.ErrFrame}, {"iconst_0; lconst_0; x: return; map x | I J I", api.ErrFrame},
		{"x: new A; y: return; map y | @x", api.OK}, {"x: new A; y: return; map y | T", api.OK}, {"x: new A; y: return; map y | A", api.ErrFrame}, {"x: new A; y: return; map y | @y", api.ErrFrame}, {"x: new A; y: return; map y | Object", api.ErrFrame}, {"x: new A; new B; y: return; map y | @0 @3", api.OK}, {"x: new A; new B; y: return; map y | @3 @0", api.ErrFrame},
	})
}

func TestFresh(t *testing.T) { // P12.1: what is Fresh is assignable where the map is Fresh alone
	give(t, "<init> (I)V 1 2", []example{
		{"aload_0; invokespecial Object.<init>()V; x: return; map x A I |", api.OK}, {"aload_0; invokespecial Object.<init>()V; x: return; map x T T |", api.OK}, {"aload_0; invokespecial Object.<init>()V; x: return; map x this I |", api.ErrFrame}, {"aload_0; invokespecial Object.<init>()V; x: return; map x T this |", api.ErrFrame},
		{"x: aload_0; invokespecial Object.<init>()V; return; map x this I |", api.OK}, {"x: aload_0; invokespecial Object.<init>()V; return; map x this T |", api.OK}, {"x: aload_0; invokespecial Object.<init>()V; return; map x T I |", api.ErrFrame}, {"x: aload_0; invokespecial Object.<init>()V; return; map x A I |", api.ErrFrame}, {"x: aload_0; invokespecial Object.<init>()V; return; map x T T |", api.ErrFrame},
		{"aload_0; x: invokespecial Object.<init>()V; return; map x this I | this", api.OK}, {"aload_0; x: invokespecial Object.<init>()V; return; map x T I | this", api.ErrFrame}, {"aload_0; x: invokespecial Object.<init>()V; return; map x this I | T", api.ErrType},
		{"return", api.ErrType}, {"aload_0; pop; return", api.ErrType}, {"x: goto x; map x this I |", api.OK}, {"x: goto x; map x T I |", api.ErrFrame}, {"x: aload_0; invokespecial Object.<init>()V; goto x; map x this I |", api.ErrFrame},
		{"aload_0; astore_1; x: aload_1; invokespecial Object.<init>()V; return; map x T this |", api.OK}, {"aconst_null; astore_0; x: goto x; map x T I |", api.ErrFrame}, {"aconst_null; astore_0; x: goto x; map x N I |", api.ErrFrame}, {"aconst_null; astore_0; x: goto x; map x this I |", api.ErrFrame},
		{"aconst_null; astore_0; return", api.ErrType},
	})
	give(t, "+m ()V 1 1", []example{ // behind what does not fall a map may say all; what is not Fresh may stand where Fresh is asked
		{"return; x: goto x; map x this |", api.OK}, {"return; x: return; map x this |", api.ErrType}, {"return; x: astore_0; y: goto y; map x T | this; map y this |", api.OK}, {"return; x: astore_0; y: goto y; map x T | this; map y T |", api.OK}, {"return; x: astore_0; return; map x T | this", api.OK},
		{"return; x: aload_0; invokespecial A.<init>()V; return; map x this |", api.OK}, {"return; x: nop; y: goto y; map x this |; map y T |", api.ErrFrame}, {"return; x: nop; y: goto y; map x this |; map y this |", api.OK},
	})
}

func TestMapsFrame(t *testing.T) { // P12.1: the map's frame is the frame from there on, and not what came
	give(t, "+m (I)V 2 1", []example{
		{"nop; x: iload_0; return; map x I |", api.OK}, {"nop; x: iload_0; return; map x T |", api.ErrType}, {"nop; x: iinc 0 1; return; map x T |", api.ErrType}, {"x: iload_0; return; map x T |", api.ErrType}, {"x: iload_0; return; map x I |", api.OK}, {"iload_0; x: iload_0; return; map x T | I", api.ErrType},
		{"iconst_0; x: istore_0; return; map x T | I", api.OK}, {"iconst_0; x: istore_0; return; map x I | T", api.ErrType}, {"iconst_0; x: pop; iload_0; return; map x T | T", api.ErrType}, {"iconst_0; x: istore_0; iload_0; return; map x T | I", api.OK},
		{"x: nop; y: iload_0; return; map x T |; map y I |", api.ErrFrame}, {"x: nop; y: iload_0; return; map x I |; map y T |", api.ErrType}, {"aconst_null; x: invokevirtual A.v()V; return; map x I | A", api.ErrMissing}, {"aconst_null; x: areturn; map x I | A", api.ErrType},
		{"iload_0; ifeq x; nop; x: iload_0; return; map x I |", api.OK}, {"iload_0; ifeq x; nop; x: iload_0; return; map x T |", api.ErrType},
	})
	give(t, "+m (LB~)LA~ 1 1", []example{
		{"aload_0; x: areturn; map x B | B", api.OK}, {"aload_0; x: areturn; map x T | A", api.OK}, {"aload_0; x: areturn; map x B | Object", api.ErrType}, {"x: aload_0; areturn; map x Object |", api.ErrType}, {"x: aload_0; areturn; map x A |", api.OK},
	})
}

func TestNoFrame(t *testing.T) { // P12.1: behind each that does not fall there is none: a map or ErrFrame, what stands behind is gone through all the same
	for _, x := range []struct{ head, code string }{
		{"+m ()V 1 0", "return"}, {"+m ()I 1 0", "iconst_0; ireturn"}, {"+m ()J 1 0", "lconst_0; lreturn"}, {"+m ()LA~ 1 0", "aconst_null; areturn"}, {"+m ()V 1 0", "aconst_null; athrow"}, {"+m ()V 1 0", "goto y"},
	} {
		y := "; y: goto y; map y |"
		give(t, x.head, []example{
			{x.code + y, api.OK}, {x.code + "; goto y" + y, api.ErrFrame}, {x.code + "; nop" + y, api.ErrFrame}, {x.code + "; return" + y, api.ErrFrame}, {x.code + "; x: nop; map x |" + y, api.OK}, {x.code + "; x: pop; map x | J" + y, api.OK}, {x.code + "; x: nop; map x | J" + y, api.ErrFrame},
			{x.code + "; x: pop; map x |" + y, api.ErrDepth}, {x.code + "; x: goto y; map x |; nop" + y, api.ErrFrame}, {x.code + "; x: goto y; map x |; z: nop; map z |" + y, api.OK}, {x.code + "; x: aload_0; map x |" + y, api.ErrLocal}, {x.code + "; goto x; x: goto y; map x |" + y, api.ErrFrame},
		})
	}
	for _, x := range []example{ // as the last one nothing need stand behind
		{"+m ()V 1 0; return", api.OK}, {"+m ()I 1 0; iconst_0; ireturn", api.OK}, {"+m ()J 1 0; lconst_0; lreturn", api.OK}, {"+m ()LA~ 1 0; aconst_null; areturn", api.OK}, {"+m ()V 1 0; aconst_null; athrow", api.OK}, {"+m ()V 1 0; y: goto y; map y |", api.OK}, {"+m ()V 1 0; y: goto y", api.ErrFrame},
		{"+m ()V 1 0; return; return", api.ErrFrame}, {"+m ()V 1 0; aconst_null; athrow; return", api.ErrFrame}, {"+m ()V 1 0; aconst_null; athrow; x: return; map x |", api.OK}, {"+m ()V 1 0; return; x: return; map x |", api.OK}, {"+m ()V 1 0; return; x: nop; return; map x |", api.OK}, {"+m ()I 1 0; iconst_0; ireturn; pop", api.ErrFlow},
	} {
		gives(t, x.text, x.e)
	}
}

func TestErrorsOfStep(t *testing.T) { // P12.1: each of Step's errors, at the first instruction and further on
	give(t, "+m ()V 2 1", []example{
		{"getstatic A.none:I; return", api.ErrMissing}, {"getstatic A.s:I; return", api.OK}, {"getstatic A.f:I; return", api.ErrMissing}, {"ldc #1; return", api.ErrMissing}, {"ldc 7; return", api.OK}, {"ldc2_w #1; return", api.ErrMissing}, {"invokestatic A.none()V; return", api.ErrMissing}, {"invokestatic A.main()V; return", api.OK}, {"new None; return", api.ErrMissing}, {"new A; return", api.OK}, {"aconst_null; checkcast [LNone~; return", api.ErrMissing},
		{"iconst_0; lconst_0; iadd; return", api.ErrType}, {"iconst_0; iconst_0; iadd; return", api.OK}, {"iload_0; return", api.ErrType}, {"iconst_0; ireturn", api.ErrType}, {"iconst_0; athrow", api.ErrType}, {"new Sys; return", api.ErrType}, {"iconst_0; newarray 9; return", api.ErrType}, {"x: new A; dup; goto x; map x T | A", api.ErrFrame}, {"x: new A; y: goto y; map y T | @x", api.OK}, {"return; y: nop; x: new A; goto x; map y T | @x; map x T | @x", api.ErrType},
		{"pop; return", api.ErrDepth}, {"iconst_0; iconst_0; iconst_0; return", api.ErrDepth}, {"iconst_0; iconst_0; return", api.OK}, {"iconst_0; iadd; return", api.ErrDepth}, {"iconst_0; pop; pop; return", api.ErrDepth},
		{"iload_1; return", api.ErrLocal}, {"iconst_0; istore_1; return", api.ErrLocal}, {"iconst_0; istore_0; iload_0; return", api.OK}, {"iinc 1 1; return", api.ErrLocal}, {"aload 64; return", api.ErrLocal}, {"lload 255; return", api.ErrLocal},
		{"iconst_0; istore_0; iinc 0 1; iload_0; iconst_0; iadd; istore_0; getstatic A.none:I; return", api.ErrMissing}, {"iconst_0; istore_0; iinc 0 1; iload_0; iconst_0; iadd; istore_0; aload_0; return", api.ErrType}, {"iconst_0; istore_0; iinc 0 1; iload_0; iconst_0; iadd; istore_0; lload_1; return", api.ErrLocal}, {"iconst_0; istore_0; iinc 0 1; iload_0; iconst_0; iadd; istore_0; pop; return", api.ErrDepth},
	})
}

// leading are the instructions that lead elsewhere, with what they take ahead of them.
func leading() map[string]string {
	m := map[string]string{"goto": ""}
	for _, s := range strings.Fields("eq ne lt ge gt le") {
		m["if"+s] = "iconst_0; "
		m["if_icmp"+s] = "iconst_0; iconst_1; "
	}
	for _, s := range strings.Fields("if_acmpeq if_acmpne") {
		m[s] = "aconst_null; aconst_null; "
	}
	for _, s := range strings.Fields("ifnull ifnonnull") {
		m[s] = "aconst_null; "
	}
	return m
}

func TestLeads(t *testing.T) { // P12.1: each that leads, forward, back and to itself: a map that takes the frame, one that does not, none
	for name, ahead := range leading() {
		back := "x: nop; " + ahead + name + " x; z: return; map z T |"
		on := ahead + name + " x; z: nop; x: return; map z T |"
		more := "lconst_0; " + ahead + name + " x; z: nop; x: return; map z T | J"
		give(t, "+m ()V 3 1", []example{
			{back, api.ErrFrame}, {back + "; map x T |", api.OK}, {back + "; map x I |", api.ErrFrame},
			{on, api.ErrFrame}, {on + "; map x T |", api.OK}, {on + "; map x I |", api.ErrFrame}, {on + "; map x T | T", api.ErrFrame}, {on + "; map x T | I", api.ErrFrame},
			{more, api.ErrFrame}, {more + "; map x T | J", api.OK}, {more + "; map x T | T", api.OK}, {more + "; map x T |", api.ErrFrame}, {more + "; map x T | I", api.ErrFrame}, {more + "; map x T | J J", api.ErrFrame},
		})
		if ahead != "" { // it falls, too: the frame behind is what it leaves
			give(t, "+m ()V 3 1", []example{
				{"lconst_0; " + ahead + name + " x; lstore_0; x: return; map x T |", api.ErrFrame}, {"lconst_0; " + ahead + name + " x; nop; x: pop; return; map x T | J", api.OK}, {"lconst_0; " + ahead + name + " x; pop; lconst_1; x: lstore_0; return; map x T | J", api.OK}, {"lconst_0; " + ahead + name + " x; istore_0; x: return; map x T | J", api.ErrType}, {ahead + name + " x; pop; x: return; map x T |", api.ErrDepth}, {ahead + name + " x; z: nop; x: return; map z T | I; map x T |", api.ErrFrame},
			})
		} else { // it does not: what stands behind needs a map
			give(t, "+m ()V 3 1", []example{
				{"goto x; x: return; map x T |", api.OK}, {"goto x; x: return", api.ErrFrame}, {"goto x; nop; x: return; map x T |", api.ErrFrame}, {"goto x; z: nop; x: return; map x T |; map z T |", api.OK}, {"goto x; z: lload_0; pop; x: return; map x T |; map z J |", api.OK}, {"lconst_0; goto x; x: lstore_0; return; map x T | J", api.OK},
			})
		}
	}
	give(t, "+m ()V 1 0", []example{{"x: goto x; map x |", api.OK}, {"x: goto x", api.ErrFrame}, {"iconst_0; x: ifeq x; return; map x | I", api.ErrFrame}, {"nop; x: goto 0; map x |", api.ErrFrame}, {"nop; x: goto 0; map 0 |", api.OK}})
}

func TestLoops(t *testing.T) { // P12.1: what a map takes from each side, and methods of some length
	give(t, "+m (I)I 2 2", []example{
		{"iconst_0; istore_1; x: iload_0; ifle z; iload_1; iload_0; iadd; istore_1; iinc 0 -1; goto x; z: iload_1; ireturn; map x I I |; map z I I |", api.OK},
		{"iconst_0; istore_1; x: iload_0; ifle z; iload_1; iload_0; iadd; istore_1; iinc 0 -1; goto x; z: iload_1; ireturn; map x I I |; map z T I |", api.OK},
		{"iconst_0; istore_1; x: iload_0; ifle z; iload_1; iload_0; iadd; istore_1; iinc 0 -1; goto x; z: iload_1; ireturn; map x I T |; map z I I |", api.ErrFrame},
		{"iconst_0; istore_1; x: iload_0; ifle z; iload_1; iload_0; iadd; istore_1; iinc 0 -1; goto x; z: iload_1; ireturn; map x I I |; map z I T |", api.ErrType},
		{"x: iload_0; ifle z; iload_1; iload_0; iadd; istore_1; iinc 0 -1; goto x; z: iload_1; ireturn; map x I I |; map z I I |", api.ErrFrame},
		{"iconst_0; istore_1; x: iload_0; ifle z; lconst_0; lstore_1; goto x; z: iload_1; ireturn; map x I I |; map z I I |", api.ErrFrame},
		{"iload_0; ifeq x; lconst_0; lstore_1; goto y; x: iconst_0; istore_1; y: iload_0; ireturn; map x I T |; map y I T |", api.OK},
		{"iload_0; ifeq x; lconst_0; lstore_1; goto y; x: iconst_0; istore_1; y: iload_0; ireturn; map x I T |; map y I I |", api.ErrFrame},
		{"iload_0; ifeq x; lconst_0; lstore_1; goto y; x: iconst_0; istore_1; y: iload_0; ireturn; map x I T |; map y I J |", api.ErrFrame},
	})
	give(t, "+m (I)LObject~ 2 1", []example{
		{"iload_0; ifeq x; aconst_null; goto y; x: getstatic A.t:LA~; y: areturn; map x I |; map y I | A", api.OK}, {"iload_0; ifeq x; aconst_null; goto y; x: getstatic A.t:LA~; y: areturn; map x I |; map y I | Object", api.OK}, {"iload_0; ifeq x; aconst_null; goto y; x: getstatic A.t:LA~; y: areturn; map x I |; map y I | B", api.ErrFrame}, {"iload_0; ifeq x; aconst_null; goto y; x: getstatic A.t:LA~; y: areturn; map x I |; map y I | N", api.ErrFrame},
		{"x: new B; dup; invokespecial B.<init>()V; areturn", api.OK}, {"x: new B; dup; y: invokespecial B.<init>()V; areturn; map y I | @x @x", api.OK}, {"x: new B; dup; y: invokespecial B.<init>()V; areturn; map y T | T @x", api.ErrType}, {"x: new B; dup; invokespecial A.<init>()V; areturn", api.ErrType}, {"x: new B; areturn", api.ErrType},
	})
}

func TestMethodsOfAllKinds(t *testing.T) { // P12.1: the beginning of what is static and what is not
	for _, x := range []example{
		{"m ()LA~ 1 1; aload_0; areturn", api.OK}, {"m ()LB~ 1 1; aload_0; areturn", api.ErrType}, {"m (I)I 1 2; iload_1; ireturn", api.OK}, {"m (I)I 1 2; iload_0; ireturn", api.ErrType}, {"+m (I)I 1 1; iload_0; ireturn", api.OK}, {"+m (LA~)LA~ 1 1; aload_0; areturn", api.OK}, {"+m (LA~)LA~ 1 1; aload_0; x: areturn; map x A | A", api.OK},
		{"m ()V 1 1; x: goto x; map x A |", api.OK}, {"m ()V 1 1; x: goto x; map x B |", api.ErrFrame}, {"m ()V 1 1; x: goto x; map x Object |", api.OK}, {"m ()V 1 1; x: goto x; map x this |", api.ErrFrame}, {"<init> (J)V 1 2; x: goto x; map x this J |", api.OK},
		{"+m ([I)I 2 1; aload_0; iconst_0; iaload; ireturn", api.OK}, {"+m ([J)I 2 1; aload_0; iconst_0; iaload; ireturn", api.ErrType}, {"+m (LNone~)LNone~ 2 1; aload_0; x: areturn; map x None | None", api.OK}, {"+m (LNone~)LNone~ 2 1; aload_0; x: areturn; map x None | Object", api.ErrFrame},
	} {
		gives(t, x.text, x.e)
	}
}

func TestManyMaps(t *testing.T) { // P12.1: one map that errs among many, each one's turn
	const many = 40
	text := func(wrong int, frame string) string {
		var b strings.Builder
		b.WriteString("+m ()V 1 1; iconst_0; istore_0")
		for n := range many {
			fmt.Fprintf(&b, "; x%d: iinc 0 1", n)
		}
		b.WriteString("; return")
		for n := range many {
			f := "I |"
			if n == wrong {
				f = frame
			}
			fmt.Fprintf(&b, "; map x%d %s", n, f)
		}
		return b.String()
	}
	gives(t, text(-1, ""), api.OK)
	for n := range many {
		gives(t, text(n, "T |"), api.ErrType)
		gives(t, text(n, "J |"), api.ErrFrame)
		gives(t, text(n, "I | I"), api.ErrFrame)
		gives(t, text(n, "I | I I"), api.ErrMaps)
		gives(t, text(n, "|"), api.ErrMaps)
	}
}
