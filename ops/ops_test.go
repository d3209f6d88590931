package ops_test

import (
	"testing"

	"understudy/api"
	"understudy/ops"
)

func TestExamples(t *testing.T) { // P6.1, the chapter's examples, and the fourth of the whole
	decodesTo(t, []byte{0x84, 1, 0xFF}, 0, api.Instr{Op: 132, A: 1, B: -1, Size: 3}, api.OK)
	decodesTo(t, []byte{0, 0, 0, 0xA7, 0xFF, 0xFD}, 3, api.Instr{At: 3, Op: 167, A: 0, Size: 3}, api.OK)
	encodesTo(t, api.Instr{Op: 132, A: 1, B: -1}, []byte{0x84, 1, 0xFF}, api.OK)
	encodesTo(t, api.Instr{At: 3, Op: 167, A: 0}, []byte{0xA7, 0xFF, 0xFD}, api.OK)
	if ops.Name(0x84) != "iinc" || ops.Name(0xA7) != "goto" {
		t.Errorf("%s, %s", ops.Name(0x84), ops.Name(0xA7))
	}
}

func TestListOfCodes(t *testing.T) { // P6.1: the document's list holds what it says of itself
	if len(rows()) != 120 || len(byCode) != 120 || len(byName) != 120 {
		t.Errorf("%d rows, %d codes, %d names", len(rows()), len(byCode), len(byName))
	}
}

func TestShapeAndName(t *testing.T) { // P6.1, P1, P6: each number, held against the document's list
	count := 0
	for _, op := range numbers() {
		r, isCode := byCode[op]
		if s, ok := ops.Shape(op); s != r.shape || ok != isCode {
			t.Errorf("Shape of %d: %q, %v; want %q, %v", op, s, ok, r.shape, isCode)
		}
		if s := ops.Name(op); s != r.name {
			t.Errorf("Name of %d: %q; want %q", op, s, r.name)
		}
	}
	for op := range 256 {
		if _, ok := ops.Shape(op); ok {
			count++
		}
	}
	if count != 120 {
		t.Errorf("%d codes", count)
	}
}

func TestShapesOfSome(t *testing.T) { // P6.1: one of each shape, and what stands beside the list
	for op, want := range map[int]byte{0: '-', 16: 'b', 17: 's', 18: 'u', 20: 'c', 167: 't', 132: 'i', 188: 'u', 199: 't', -1: 0, 11: 0, 19: 0, 168: 0, 185: 0, 200: 0, 255: 0, 256: 0, 1<<8 + 16: 0} {
		if s, ok := ops.Shape(op); s != want || ok != (want != 0) {
			t.Errorf("Shape of %d: %q, %v; want %q", op, s, ok, want)
		}
	}
}

func TestNothingIsKept(t *testing.T) { // P5: whatever was asked ahead of it
	ask := func(n int) {
		b := []byte{132, 1, 0xFF, 167, 0xFF, 0xFD, 200}
		for op := range 300 {
			i := api.Instr{At: n, Op: op, A: n, B: n, Size: n}
			ops.Shape(op)
			ops.Name(op)
			ops.Encode(i)
			ops.Plain(i)
			ops.Decode(b, op%8)
		}
	}
	for n := range 3 {
		ask(n)
		TestExamples(t)
		TestShapesOfSome(t)
		TestPlainOfEach(t)
	}
}
