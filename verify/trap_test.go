package verify_test

import (
	"fmt"
	"strings"
	"testing"

	"understudy/api"
)

func TestTrapsClass(t *testing.T) { // P12.1: Throwable of Type 0, and a class that is below it; the handler's map takes it, or does not
	names := strings.Fields("Throwable DivError StoreError E F A B Object Sys Thread None")
	below := map[string]string{"Throwable": "", "DivError": "Throwable", "StoreError": "Throwable", "E": "Throwable", "F": "E Throwable"}
	for _, caught := range append([]string{""}, names...) {
		class := caught
		if caught == "" {
			class = "Throwable"
		}
		up, mayBeThrown := below[class]
		for _, held := range append([]string{"T", "I", "N", "[Throwable", "this", "[[Object"}, names...) {
			want := api.ErrFrame
			if mayBeThrown && (held == "T" || held == "Object" || held == class || strings.Contains(" "+up+" ", " "+held+" ")) {
				want = api.OK
			}
			gives(t, "+m ()V 1 0; nop; return; x: return; map x | "+held+"; trap 0 1 x "+caught, want)
		}
	}
	for _, s := range []string{"[LThrowable~", "[LE~", "[[LE~", "[I", "[LNone~", "LThrowable~", "LE~", "[", "a.b", "E[", "()V", "[V", "throwable", "Throwable1", "Throwabl", "java/lang/Throwable"} { // arrays, and what is no type
		for _, held := range []string{"T", "Object", "Throwable", "E", "[Throwable", "[E", "[I"} {
			gives(t, "+m ()V 1 0; nop; return; x: return; map x | "+held+"; trap 0 1 x "+s, api.ErrFrame)
		}
	}
}

func TestTrapsMap(t *testing.T) { // P12.1: a map at the handler, or none there; whose locals or whose stack refuse the frame, in their number too
	give(t, "+m (I)V 2 1", []example{
		{"nop; return; x: return; map x I | Throwable; trap 0 1 x", api.OK}, {"nop; return; x: return; map x T | Throwable; trap 0 1 x", api.OK}, {"nop; return; x: return; map x T | T; trap 0 1 x", api.OK},
		{"nop; return; x: return; map x J | Throwable; trap 0 1 x", api.ErrFrame}, {"nop; return; x: return; map x N | Throwable; trap 0 1 x", api.ErrFrame}, {"nop; return; x: return; map x this | Throwable; trap 0 1 x", api.ErrFrame},
		{"nop; return; x: return; map x I |; trap 0 1 x", api.ErrFrame}, {"nop; return; x: return; map x I | Throwable Throwable; trap 0 1 x", api.ErrFrame}, {"nop; return; x: return; map x I | T T; trap 0 1 x", api.ErrFrame}, {"nop; return; x: return; map x I | I; trap 0 1 x", api.ErrFrame}, {"nop; return; x: return; map x I | Object; trap 0 1 x", api.OK},
		{"nop; return; trap 0 1 0", api.ErrFrame}, {"nop; return; trap 0 1 1", api.ErrFrame}, {"nop; return; map 0 I |; map 1 I |; trap 0 1 0", api.ErrFrame}, {"nop; return; map 0 I |; map 1 I |; trap 0 1 1", api.ErrFrame}, {"nop; aconst_null; x: nop; return; trap 0 1 x", api.ErrFrame}, {"nop; aconst_null; x: nop; return; map x I | Throwable; trap 0 1 x", api.OK}, {"nop; aconst_null; x: nop; return; map x I | Throwable; trap x end x", api.OK}, {"goto y; x: return; y: nop; return; map x I | Throwable; map y I |; trap y end x", api.OK}, {"goto y; x: return; y: nop; return; map x I | E; map y I |; trap y end x", api.ErrFrame},
		{"iconst_0; iconst_0; pop; pop; return; x: return; map x I | Throwable; trap 0 x x", api.OK}, {"x: astore_0; return; map x I | Throwable; trap 0 1 x", api.ErrFrame},
		{"aconst_null; x: astore_0; y: nop; goto y; map x T | Throwable; map y T |; trap x end x E", api.OK}, {"aconst_null; x: astore_0; y: nop; goto y; map x I | Throwable; map y T |; trap x end x E", api.ErrFrame},
	})
	give(t, "+m ()V 0 0", []example{ // no room for what is caught
		{"nop; return; x: return; map x | T; trap 0 1 x", api.ErrMaps}, {"nop; return; x: return; map x |; trap 0 1 x", api.ErrFrame},
	})
	give(t, "+m ()V 1 0", []example{
		{"nop; return; x: athrow; map x | Throwable; trap 0 1 x", api.OK}, {"nop; return; x: athrow; map x | E; trap 0 1 x E", api.OK}, {"nop; return; x: athrow; map x | T; trap 0 1 x", api.ErrType}, {"nop; return; x: athrow; map x | Object; trap 0 1 x", api.ErrType}, {"nop; return; x: athrow; map x | Throwable; trap 0 x x; trap x end x", api.OK},
	})
}

func TestTrapsReach(t *testing.T) { // P12.1: the instruction at From, the last one ahead of To, and not that at To; the frame is that ahead of the instruction
	code := "iconst_0; istore_0; nop; lconst_0; lstore_0; sipush 7; istore_0; nop; aconst_null; astore_0; return; h: return"
	begins := []int{0, 1, 2, 3, 4, 5, 8, 9, 10, 11, 12}
	locals := []string{"T", "T", "I", "I", "I", "J", "J", "I", "I", "I", "N"} // ahead of each; it is what the instruction ahead made it
	for from := range begins {
		for to := from + 1; to <= len(begins); to++ {
			for _, held := range []string{"T", "I", "J", "N"} {
				want := api.OK
				for _, local := range locals[from:to] {
					if local != held && held != "T" {
						want = api.ErrFrame
					}
				}
				end := "h"
				if to < len(begins) {
					end = fmt.Sprint(begins[to])
				}
				gives(t, fmt.Sprint("+m ()V 1 1; ", code, "; map h ", held, " | Throwable; trap ", begins[from], " ", end, " h"), want)
			}
		}
	}
}

func TestTrapsToTheEnd(t *testing.T) { // P12.1: To may be the code's length; the handler is held against itself too, then
	give(t, "+m ()V 1 1", []example{
		{"nop; return; x: return; map x T | Throwable; trap 0 end x", api.OK}, {"nop; return; x: return; map x T | Throwable; trap x end x", api.OK}, {"iconst_0; istore_0; nop; goto y; x: iconst_0; y: return; map x I | Throwable; map y T |; trap 2 3 x", api.ErrDepth},
		{"iconst_0; istore_0; nop; return; x: nop; return; map x I | Throwable; trap 2 end x", api.OK}, {"iconst_0; istore_0; nop; return; x: astore_0; return; map x I | Throwable; trap 2 end x", api.ErrFrame}, {"iconst_0; istore_0; nop; return; x: astore_0; y: return; map x I | Throwable; trap 2 y x", api.OK},
	})
}

func TestTrapsFrame(t *testing.T) { // P12.1: the frame at the instruction is the map's, where there is one
	give(t, "+m ()V 1 1", []example{
		{"iconst_0; istore_0; y: nop; return; x: return; map y I |; map x I | Throwable; trap y x x", api.OK}, {"iconst_0; istore_0; y: nop; return; x: return; map y T |; map x I | Throwable; trap y x x", api.ErrFrame}, {"iconst_0; istore_0; y: nop; return; x: return; map y T |; map x T | Throwable; trap y x x", api.OK},
		{"return; y: nop; return; x: return; map y J |; map x J | Throwable; trap y x x", api.OK}, {"return; y: nop; return; x: return; map y J |; map x I | Throwable; trap y x x", api.ErrFrame}, {"return; y: nop; return; x: return; map y J |; map x I | Throwable; trap 0 y x", api.ErrFrame}, {"return; y: nop; return; x: return; map y J |; map x T | Throwable; trap 0 y x", api.OK},
		{"y: new A; z: nop; return; x: return; map x T | Throwable; trap 0 x x", api.OK}, {"y: new A; astore_0; z: nop; return; x: return; map x @y | Throwable; trap z x x", api.OK}, {"y: new A; astore_0; z: nop; return; x: return; map x @z | Throwable; trap z x x", api.ErrFrame}, {"y: new A; astore_0; z: nop; return; x: return; map x A | Throwable; trap z x x", api.ErrFrame},
	})
	give(t, "<init> (I)V 1 2", []example{ // what was not begun yet
		{"aload_0; y: invokespecial Object.<init>()V; z: return; x: athrow; map x this I | Throwable; trap 0 z x", api.OK}, {"aload_0; y: invokespecial Object.<init>()V; z: return; x: athrow; map x this I | Throwable; trap 0 x x", api.ErrFrame}, {"aload_0; y: invokespecial Object.<init>()V; z: return; x: athrow; map x T I | Throwable; trap 0 z x", api.ErrFrame}, {"aload_0; y: invokespecial Object.<init>()V; z: return; x: athrow; map x T I | Throwable; trap z x x", api.OK}, {"aload_0; y: invokespecial Object.<init>()V; z: return; x: return; map x A I | Throwable; trap z x x", api.OK}, {"aload_0; y: invokespecial Object.<init>()V; z: return; x: return; map x this I | Throwable; trap 0 z x", api.ErrType}, {"aload_0; y: invokespecial Object.<init>()V; z: return; x: athrow; map x A I | Throwable; trap y z x", api.ErrFrame},
	})
}

func TestManyTraps(t *testing.T) { // P12.1: one of several that errs, each one's turn; those that do not have the instruction do not count
	right := []string{"trap 0 1 x", "trap 0 2 x E", "trap 1 3 x F", "trap 2 4 y", "trap 0 4 x DivError", "trap 3 4 y Throwable"}
	text := func(l []string) string {
		return "+m ()V 1 0; nop; nop; nop; nop; return; x: return; y: return; map x | Throwable; map y | Object; " + strings.Join(l, "; ")
	}
	gives(t, text(right), api.OK)
	for n := range right {
		for _, wrong := range []string{"trap 0 1 x A", "trap 3 5 y Object", "trap 2 3 x None", "trap 1 2 2", "trap 4 5 0 E", "trap 0 end x [LE~"} {
			l := append([]string{}, right...)
			l[n] = wrong
			gives(t, text(l), api.ErrFrame)
			gives(t, text([]string{right[n], wrong}), api.ErrFrame)
			gives(t, text([]string{wrong, right[n]}), api.ErrFrame)
			gives(t, text([]string{wrong}), api.ErrFrame)
		}
	}
}

func TestTrapsAreNotReached(t *testing.T) { // P12.1: an error ahead of the first instruction that a wrong trap has is told, and not the trap's
	give(t, "+m ()V 1 0", []example{
		{"pop; nop; return; trap 1 2 0 A", api.ErrDepth}, {"nop; pop; return; trap 0 1 0 A", api.ErrFrame}, {"nop; pop; return; trap 1 2 0 A", api.ErrFrame}, {"nop; pop; return; trap 2 3 0 A", api.ErrDepth}, {"iload_0; nop; return; trap 2 end 0", api.ErrLocal}, {"getstatic A.none:I; return; trap 3 4 0", api.ErrMissing}, {"lconst_0; areturn; x: return; map x |; trap x end 0", api.ErrType},
		{"return; x: nop; return; map x |; trap x end 0", api.ErrFrame}, {"return; x: nop; return; y: return; map x |; map y | Throwable; trap x y y", api.OK},
	})
}
