package flow_test

import (
	"slices"
	"testing"

	"understudy/api"
	"understudy/flow"
)

func TestExamples(t *testing.T) { // P7.1, P7.2, the chapter's examples, and the fourth of the whole
	listsTo(t, []byte{3, 0xAC}, []api.Instr{{At: 0, Op: 3, Size: 1}, {At: 1, Op: 172, Size: 1}}, api.OK)
	checksTo(t, api.Method{Code: []byte{3}}, nil, api.ErrFlow)
	checksTo(t, api.Method{Code: []byte{3, 0xAC}}, []api.Instr{{At: 0, Op: 3, Size: 1}, {At: 1, Op: 172, Size: 1}}, api.OK)
	listsTo(t, []byte{0x84, 1, 0xFF}, []api.Instr{{Op: 132, A: 1, B: -1, Size: 3}}, api.OK)
}

func TestCodesByHand(t *testing.T) { // the tests' own table has as many codes as the document says
	if len(shapeOf) != 120 {
		t.Errorf("%d codes", len(shapeOf))
	}
}

func TestAt(t *testing.T) { // P7.1: beginnings, places inside, the end, and what is none
	code := []byte{3, 153, 0, 4, 0, 17, 1, 2, 16, 9, 177}
	l, e := flow.List(code)
	if e != api.OK || len(l) != 6 {
		t.Fatalf("%+v, %d", l, e)
	}
	want := map[int]int{0: 0, 1: 1, 4: 2, 5: 3, 8: 4, 10: 5}
	for _, at := range numbers() {
		place, begins := want[at]
		if !begins {
			place = -1
		}
		if n := flow.At(l, at); n != place {
			t.Errorf("At %d: %d; want %d", at, n, place)
		}
		if n := flow.At(nil, at); n != -1 {
			t.Errorf("At %d of nil: %d", at, n)
		}
		if n := flow.At([]api.Instr{}, at); n != -1 {
			t.Errorf("At %d of an empty list: %d", at, n)
		}
	}
}

func TestAtOfLists(t *testing.T) { // P7.1, P1, P4, P6: lists that no call made: the first one of some, in any order, at the ends of numbers
	for _, x := range ends() {
		for _, y := range ends() {
			l := []api.Instr{{At: y, Op: 1}, {At: x, Op: 2}, {At: x, Op: 3}, {At: y, Op: 4}, {At: x}}
			before := slices.Clone(l)
			place := 1
			if x == y {
				place = 0
			}
			if n := flow.At(l, x); n != place {
				t.Errorf("At %d of %+v: %d; want %d", x, l, n, place)
			}
			if n := flow.At(l[1:], x); n != 0 {
				t.Errorf("At %d of %+v: %d; want 0", x, l[1:], n)
			}
			if n := flow.At(l[:1], x); n != -place {
				t.Errorf("At %d of %+v: %d; want %d", x, l[:1], n, -place)
			}
			if !slices.Equal(l, before) {
				t.Errorf("At changed %+v into %+v", before, l)
			}
		}
	}
	if n := flow.At([]api.Instr{{Op: 5, A: 5, B: 5, Size: 5}, {Op: 5, At: 5}}, 5); n != 1 { // no other number of an instruction counts
		t.Errorf("%d", n)
	}
}

func TestAtOfEachInstruction(t *testing.T) { // P7.1: each one's own beginning
	var code []byte
	for op := range 256 {
		if _, isCode := shapeOf[op]; isCode {
			code = append(code, alone(op)...)
		}
	}
	l, _ := flow.List(code)
	for n, i := range l {
		if flow.At(l, i.At) != n {
			t.Errorf("At %d: %d; want %d", i.At, flow.At(l, i.At), n)
		}
		for at := i.At + 1; at < i.At+i.Size; at++ {
			if flow.At(l, at) != -1 {
				t.Errorf("At %d: %d; want -1", at, flow.At(l, at))
			}
		}
	}
	if len(l) != 120 || flow.At(l, len(code)) != -1 {
		t.Errorf("%d, %d", len(l), flow.At(l, len(code)))
	}
}

func TestLeads(t *testing.T) { // P7.1, P1, P6: each number as a code, with A at both ends
	for _, op := range numbers() {
		for _, a := range ends() {
			i := api.Instr{At: 7, Op: op, A: a, B: a - 1, Size: 3}
			want := 0
			if shapeOf[op] == 't' {
				want = a
			}
			if to, leads := flow.Leads(i); to != want || leads != (shapeOf[op] == 't') {
				t.Errorf("Leads of %+v: %d, %v; want %d", i, to, leads, want)
			}
		}
	}
}

func TestLeadsOfSome(t *testing.T) { // P7.1: where it leads is a place, not a distance; no other number counts
	for op, want := range map[int]bool{0: false, 17: false, 132: false, 152: false, 153: true, 160: true, 166: true, 167: true, 168: false, 177: false, 182: false, 197: false, 198: true, 199: true, 200: false, -1: false, 153 + 256: false} {
		for _, at := range ends() {
			to, leads := flow.Leads(api.Instr{At: at, Op: op, A: 9, B: at, Size: at})
			if leads != want || want && to != 9 || !want && to != 0 {
				t.Errorf("Leads of %d: %d, %v", op, to, leads)
			}
		}
	}
	l, _ := flow.List([]byte{0, 0, 0, 167, 0xFF, 0xFE})
	if to, leads := flow.Leads(l[3]); to != 1 || !leads {
		t.Errorf("Leads of %+v: %d, %v", l[3], to, leads)
	}
}

func TestFalls(t *testing.T) { // P7.1, P1, P6: all numbers, but for six of them; nothing but the code counts
	for _, op := range numbers() {
		want := !slices.Contains(waysOut, op)
		for _, n := range ends() {
			if got := flow.Falls(api.Instr{At: n, Op: op, A: n, B: n, Size: n}); got != want {
				t.Errorf("Falls of %d: %v", op, got)
			}
		}
	}
}

func TestNothingIsKept(t *testing.T) { // P4, P5: whatever was asked ahead of it, and whatever became of what was handed in and answered
	code := []byte{3, 153, 0, 4, 0, 177}
	traps := []api.Trap{{From: 0, To: 6, Handler: 4}}
	want, _ := listByHand(code)
	first, _ := flow.List(code)
	second, _ := flow.Check(api.Method{Code: code, Traps: traps})
	third, _ := flow.List(code)
	clear(code)
	clear(traps)
	if !slices.Equal(first, want) || !slices.Equal(second, want) || !slices.Equal(third, want) {
		t.Errorf("%+v, %+v, %+v; want %+v", first, second, third, want)
	}
	clear(first)
	if !slices.Equal(second, want) || !slices.Equal(third, want) {
		t.Errorf("%+v, %+v; want %+v", second, third, want)
	}
	clear(second[:cap(second)])
	if !slices.Equal(third, want) {
		t.Errorf("%+v; want %+v", third, want)
	}
	for range 3 {
		TestExamples(t)
		TestCheckTraps(t)
		flow.Check(api.Method{Code: []byte{200}})
		flow.List([]byte{17})
	}
}
