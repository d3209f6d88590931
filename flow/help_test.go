package flow_test

import (
	"bytes"
	"math"
	"slices"
	"strconv"
	"strings"
	"testing"

	"understudy/api"
	"understudy/flow"
)

// shapes are the codes of each shape, as the chapter of instructions lists them.
var shapes = map[byte]string{
	'-': "0-10 26-33 42-47 50 59-66 75-80 83 87 89-90 95-97 100-101 104-105 108-109 112-113 116-117 120-131 133 136 148 172-173 176-177 190-191 194-195",
	'b': "16",
	's': "17",
	'u': "18 21-22 25 54-55 58 188",
	'c': "20 178-184 187 189 192-193",
	't': "153-167 198-199",
	'i': "132",
}

// shapeOf is the shape of each code; of what is none nothing.
var shapeOf = func() map[int]byte {
	m := map[int]byte{}
	for shape, runs := range shapes {
		for run := range strings.FieldsSeq(runs) {
			first, last, isRun := strings.Cut(run, "-")
			if !isRun {
				last = first
			}
			from, _ := strconv.Atoi(first)
			to, _ := strconv.Atoi(last)
			for op := from; op <= to; op++ {
				m[op] = shape
			}
		}
	}
	return m
}()

// sizes are how many bytes instructions of each shape have.
var sizes = map[byte]int{'-': 1, 'b': 2, 'u': 2, 's': 3, 'c': 3, 't': 3, 'i': 3}

// waysOut are the codes behind which the next instruction does not come.
var waysOut = []int{167, 172, 173, 176, 177, 191}

// instrByHand answers the instruction whose bytes b are, and which begins at the place at.
func instrByHand(b []byte, at int) api.Instr {
	i := api.Instr{At: at, Op: int(b[0]), Size: len(b)}
	switch shapeOf[i.Op] {
	case 'b':
		i.A = int(int8(b[1]))
	case 'u':
		i.A = int(b[1])
	case 's':
		i.A = int(int16(uint16(b[1])<<8 | uint16(b[2])))
	case 'c':
		i.A = int(b[1])*256 + int(b[2])
	case 't':
		i.A = at + int(int16(uint16(b[1])<<8|uint16(b[2])))
	case 'i':
		i.A, i.B = int(b[1]), int(int8(b[2]))
	}
	return i
}

// listByHand answers the instructions of code, as the chapter tells it.
func listByHand(code []byte) ([]api.Instr, api.Errno) {
	var l []api.Instr
	for at := 0; at != len(code); {
		shape, isCode := shapeOf[int(code[at])]
		if !isCode {
			return nil, api.ErrOp
		}
		end := at + sizes[shape]
		if end > len(code) {
			return nil, api.ErrShort
		}
		l = append(l, instrByHand(code[at:end], at))
		at = end
	}
	return l, api.OK
}

// checkByHand answers what Check answers of m, as the chapter tells it.
func checkByHand(m api.Method) ([]api.Instr, api.Errno) {
	l, e := listByHand(m.Code)
	if e != api.OK {
		return nil, e
	}
	begins := func(at int) bool {
		return slices.ContainsFunc(l, func(i api.Instr) bool { return i.At == at })
	}
	right := len(l) > 0 && slices.Contains(waysOut, l[len(l)-1].Op)
	for _, i := range l {
		right = right && (shapeOf[i.Op] != 't' || begins(i.A))
	}
	for _, t := range m.Traps {
		right = right && begins(t.From) && begins(t.Handler) && (begins(t.To) || t.To == len(m.Code))
	}
	if !right {
		return nil, api.ErrFlow
	}
	return l, api.OK
}

// ends are numbers at both ends of what there is, and of what is told of code, and beside them.
func ends() []int {
	var l []int
	for _, n := range []int{0, 1 << 7, 1 << 8, api.MaxCode, 1 << 15, 1 << 16, 1 << 31, 1 << 32, 1 << 62} {
		for d := -2; d <= 2; d++ {
			l = append(l, n+d, -n+d)
		}
	}
	return append(l, math.MaxInt, math.MaxInt-1, math.MinInt, math.MinInt+1)
}

// numbers are all codes, and what is none on both sides.
func numbers() []int {
	l := ends()
	for op := -300; op < 600; op++ {
		l = append(l, op)
	}
	return l
}

// alone answers bytes of the code op with as many behind it as it has (of no code: none): they lead to itself, if it leads.
func alone(op int) []byte {
	b := make([]byte, max(1, sizes[shapeOf[op]]))
	b[0] = byte(op)
	return b
}

// jump answers the bytes of the code op, of those that lead, at the place at, which lead to the place to.
func jump(op, at, to int) []byte {
	d := uint16(int16(to - at))
	return []byte{byte(op), byte(d >> 8), byte(d)}
}

// lists asks for the instructions of code: held against a reading by hand.
func lists(t *testing.T, code []byte) {
	t.Helper()
	want, e := listByHand(code)
	listsTo(t, code, want, e)
}

// listsTo asks for that answer, with bytes behind the code's end that don't count.
func listsTo(t *testing.T, code []byte, want []api.Instr, e api.Errno) {
	t.Helper()
	whole := slices.Concat(code, []byte{177, 0, 3, 177})
	before := bytes.Clone(whole)
	l, f := flow.List(whole[:len(code)])
	if !slices.Equal(l, want) || f != e {
		t.Errorf("List of %d bytes %.40x: %+v, %d; want %+v, %d", len(code), code, l, f, want, e)
	}
	if !bytes.Equal(whole, before) {
		t.Errorf("List changed %.40x into %.40x", before, whole)
	}
	sum := 0
	for _, i := range l {
		sum += i.Size
	}
	if f == api.OK && sum != len(code) {
		t.Errorf("List of %d bytes %.40x: the sizes of all are %d", len(code), code, sum)
	}
}

// checks asks for the instructions of m: held against a reading by hand.
func checks(t *testing.T, m api.Method) {
	t.Helper()
	want, e := checkByHand(m)
	checksTo(t, m, want, e)
}

// checksTo asks for that answer.
func checksTo(t *testing.T, m api.Method, want []api.Instr, e api.Errno) {
	t.Helper()
	code, traps, maps := bytes.Clone(m.Code), slices.Clone(m.Traps), bytes.Clone(m.Maps)
	l, f := flow.Check(m)
	if !slices.Equal(l, want) || f != e {
		t.Errorf("Check of %d bytes %.40x with traps %v: %+v, %d; want %+v, %d", len(m.Code), m.Code, m.Traps, l, f, want, e)
	}
	if !bytes.Equal(m.Code, code) || !slices.Equal(m.Traps, traps) || !bytes.Equal(m.Maps, maps) {
		t.Errorf("Check changed %.40x, %v, %x into %.40x, %v, %x", code, traps, maps, m.Code, m.Traps, m.Maps)
	}
}

// refuses asks for the error e of m.
func refuses(t *testing.T, m api.Method, e api.Errno) {
	t.Helper()
	checks(t, m)
	checksTo(t, m, nil, e)
}

// takes asks that m is taken, with some instructions.
func takes(t *testing.T, m api.Method) {
	t.Helper()
	checks(t, m)
	if l, e := flow.Check(m); len(l) == 0 || e != api.OK {
		t.Errorf("Check of %d bytes %.40x with traps %v: %+v, %d", len(m.Code), m.Code, m.Traps, l, e)
	}
}

// eachCode calls f with each code of at most n bytes, each of which is one of few.
func eachCode(few []byte, n int, f func([]byte)) {
	var grow func([]byte)
	grow = func(code []byte) {
		f(code)
		if len(code) == n {
			return
		}
		for _, x := range few {
			grow(append(code[:len(code):len(code)], x))
		}
	}
	grow(nil)
}

// trap answers the trap of those numbers.
func trap(from, to, handler, class int) api.Trap {
	return api.Trap{From: from, To: to, Handler: handler, Type: class}
}
