package verify_test

import (
	"fmt"
	"strings"
	"testing"

	"understudy/api"
)

func TestOrder(t *testing.T) { // P12.1, P2: of several errors the one that the chapter names first, in all combinations
	flows := []example{{"", api.OK}, {"; code C9", api.ErrOp}, {"; code 10", api.ErrShort}, {"; x: nop", api.ErrFlow}}
	frames := []example{ // of one local KInt; of none
		{"", api.OK}, {"; maps 00 01 FF 00 01 00 01 01 00 00", api.OK}, {"; maps 00 01 FF 00 01 00 00 00 00", api.ErrMaps}, {"; maps 00 01 FF 00 00 00 01 01 00 01 01", api.ErrMaps}, {"; maps 00 01 FF 00 09 00 01 01 00 00", api.ErrMaps},
		{"; maps 00 02 FF 00 01 00 01 01 00 00", api.ErrShort}, {"; maps 00 02 FF 00 01 00 00 00 00", api.ErrShort}, {"; maps 00 02 FF 00 09 00 01 01 00 00 FE", api.ErrMaps}, {"; maps 00", api.ErrShort},
	}
	steps := []example{{"nop", api.OK}, {"pop", api.ErrDepth}, {"getstatic A.none:I", api.ErrMissing}, {"aload_0", api.ErrType}, {"nop; goto 0", api.ErrFrame}}
	for _, local := range []example{{"+m (I)V 0 1; ", api.OK}, {"+m (I)V 0 0; ", api.ErrLocal}, {"m (I)V 0 1; ", api.ErrLocal}} {
		for _, flow := range flows {
			for _, frame := range frames {
				for _, step := range steps {
					want := api.OK
					for _, x := range []example{local, flow, frame, step} {
						if want == api.OK {
							want = x.e
						}
					}
					text := "nop; " + step.text + "; return"
					if strings.Contains(step.text, "goto") {
						text = "nop; " + step.text // what would stand behind needs a map
					}
					gives(t, local.text+text+flow.text+frame.text, want)
				}
			}
		}
	}
}

func TestOrderOfInstructions(t *testing.T) { // P12.1: the first instruction's error of three, each of each sort
	flaws := []example{
		{"X: nop", api.OK}, {"X: pop", api.ErrDepth}, {"X: aload_0", api.ErrType}, {"X: getstatic A.none:I", api.ErrMissing}, {"X: iload_1", api.ErrLocal},
		{"X: nop; map X J |", api.ErrFrame}, {"X: nop; map X I | I", api.ErrFrame}, {"iconst_0; X: ifeq 0", api.ErrFrame}, {"X: nop; Y: nop; trap X Y h A", api.ErrFrame}, {"X: nop; Y: nop; trap X Y X", api.ErrFrame},
	}
	for _, a := range flaws {
		for _, b := range flaws {
			for _, c := range flaws {
				want := api.OK
				text := "+m (I)V 1 1"
				for n, x := range []example{a, b, c} {
					text += "; " + strings.NewReplacer("X", fmt.Sprint("x", n), "Y", fmt.Sprint("y", n)).Replace(x.text)
					if want == api.OK {
						want = x.e
					}
				}
				gives(t, text+"; return; h: return; map h I | Throwable", want)
			}
		}
	}
}

func TestOrderAtAnInstruction(t *testing.T) { // P12.1: at one instruction its map, its traps, what it does, where it leads, in all combinations
	for _, frame := range []example{{"", api.OK}, {"; map x I | $", api.OK}, {"; map x J | $", api.ErrFrame}, {"; map x I | $ T", api.ErrFrame}} {
		for _, trap := range []example{{"", api.OK}, {"; trap x y h", api.OK}, {"; trap x y h A", api.ErrFrame}, {"; trap x y y", api.ErrFrame}, {"; trap x y z", api.ErrFrame}} {
			for _, step := range []example{{"I iconst_0", api.OK}, {" nop", api.ErrDepth}, {"J lconst_0", api.ErrType}} {
				for _, lead := range []example{{"; map z I |", api.OK}, {"", api.ErrFrame}, {"; map z J |", api.ErrFrame}, {"; map z I | I", api.ErrFrame}} {
					want := api.OK
					for _, x := range []example{frame, trap, step, lead} {
						if want == api.OK {
							want = x.e
						}
					}
					stack, ahead, _ := strings.Cut(step.text, " ")
					text := "+m (I)V 2 1; " + ahead + "; x: ifeq z; y: nop; z: return; h: return; map h I | Throwable" + frame.text + trap.text + lead.text
					gives(t, strings.ReplaceAll(text, "$", stack), want)
				}
			}
		}
	}
	give(t, "+m ()V 1 0", []example{ // where it leads is told ahead of what the next one does
		{"iconst_0; ifeq 0; pop; return", api.ErrFrame}, {"iconst_0; ifeq x; pop; x: return; map x |", api.ErrDepth}, {"goto x; pop; x: return", api.ErrFrame}, {"goto x; pop; x: return; map x |", api.ErrFrame}, {"iconst_0; ifeq 0; getstatic A.none:I; return", api.ErrFrame},
		{"return; pop; return", api.ErrFrame}, {"return; x: pop; return; map x |", api.ErrDepth}, {"return; getstatic A.none:I; return", api.ErrFrame},
	})
}
