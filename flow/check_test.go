package flow_test

import (
	"math/rand"
	"slices"
	"testing"

	"understudy/api"
	"understudy/flow"
)

func TestCheckOfNone(t *testing.T) { // P7.2, P3: a code of no bytes, whatever its traps are
	for _, code := range [][]byte{nil, {}} {
		refuses(t, api.Method{Code: code}, api.ErrFlow)
		refuses(t, api.Method{Code: code, Traps: []api.Trap{{}}}, api.ErrFlow)
	}
}

func TestCheckErrorsOfList(t *testing.T) { // P7.2, P2: List's error comes first
	stray := []api.Trap{{From: -1, To: -1, Handler: -1}}
	for _, x := range []struct {
		code []byte
		e    api.Errno
	}{
		{[]byte{201}, api.ErrOp}, {[]byte{17, 0}, api.ErrShort}, {[]byte{17}, api.ErrShort},
		{[]byte{177, 200}, api.ErrOp}, {[]byte{177, 16}, api.ErrShort}, {[]byte{3, 3, 11}, api.ErrOp},
		{[]byte{167, 0, 1, 200}, api.ErrOp}, {[]byte{167, 0, 1, 167, 0}, api.ErrShort}, {[]byte{167, 0x80, 0, 255}, api.ErrOp},
		{[]byte{200, 17}, api.ErrOp}, {[]byte{17, 200}, api.ErrShort},
	} {
		refuses(t, api.Method{Code: x.code}, x.e)
		refuses(t, api.Method{Code: x.code, Traps: stray}, x.e)
		refuses(t, api.Method{Code: x.code, Traps: []api.Trap{{To: 1}}}, x.e)
	}
	for op := range 256 {
		b := alone(op)
		if _, isCode := shapeOf[op]; !isCode {
			refuses(t, api.Method{Code: b, Traps: stray}, api.ErrOp)
		}
		for n := 1; n < len(b); n++ {
			refuses(t, api.Method{Code: b[:n], Traps: stray}, api.ErrShort)
		}
	}
}

func TestCheckLast(t *testing.T) { // P7.2: each code as the last one (one that leads leads to itself), alone and behind others
	for op := range shapeOf {
		for _, head := range [][]byte{nil, {3}, {177}, {17, 0, 0}} {
			m := api.Method{Code: slices.Concat(head, alone(op))}
			if slices.Contains(waysOut, op) {
				takes(t, m)
			} else {
				refuses(t, m, api.ErrFlow)
				m.Code = append(m.Code, 177)
				takes(t, m)
			}
		}
	}
}

func TestCheckLeads(t *testing.T) { // P7.2, P6: each code that leads, to each place there is and to some that are none
	for op, shape := range shapeOf {
		if shape != 't' {
			continue
		}
		for to := -40; to <= 60; to++ {
			code := slices.Concat([]byte{3, 17, 0, 0}, jump(op, 4, to), []byte{16, 0, 0, 177})
			m := api.Method{Code: code}
			if slices.Contains([]int{0, 1, 4, 7, 9, 10}, to) {
				takes(t, m)
			} else {
				refuses(t, m, api.ErrFlow)
			}
		}
		for _, to := range []int{4 - 32768, 4 + 32767, 5 - 32768, 4 + 256, 4 - 256, 4 + 4096, 11} {
			refuses(t, api.Method{Code: slices.Concat([]byte{3, 17, 0, 0}, jump(op, 4, to), []byte{16, 0, 0, 177})}, api.ErrFlow)
		}
	}
}

func TestCheckEachThatLeads(t *testing.T) { // P7.2: each one of several, also where none comes; one that is not told to be left counts too
	for n := range 5 {
		for _, to := range []int{-1, 0, 1, 2, 3, 6, 9, 12, 15, 16, 17} {
			var code []byte
			for k := range 5 {
				target := k * 3
				if k == n {
					target = to
				}
				code = append(code, jump(167-k*3, k*3, target)...)
			}
			m := api.Method{Code: append(code, 177)}
			if to >= 0 && to%3 == 0 && to <= 15 {
				takes(t, m)
			} else {
				refuses(t, m, api.ErrFlow)
			}
		}
	}
	refuses(t, api.Method{Code: []byte{177, 167, 0, 1, 177}}, api.ErrFlow)
	refuses(t, api.Method{Code: []byte{177, 153, 0, 5, 177, 177}}, api.ErrFlow)
	takes(t, api.Method{Code: []byte{177, 153, 0, 4, 177, 177}})
}

func TestCheckFarLeads(t *testing.T) { // P7.2: as far as two bytes lead, with more instructions than a method's code may have
	code := make([]byte, 40000)
	code[len(code)-1] = 177
	copy(code[100:], jump(167, 100, 100+32767))
	takes(t, api.Method{Code: code})
	copy(code[33000:], jump(199, 33000, 33000-32768))
	takes(t, api.Method{Code: code, Traps: []api.Trap{{From: 0, To: 40000, Handler: 39999}}})
	code[100+32766] = 16
	refuses(t, api.Method{Code: code}, api.ErrFlow)
}

// trapped is a code of five instructions, which begin at 0, 1, 4, 5 and 7; its length is 8.
var trapped = []byte{3, 17, 1, 2, 0, 16, 9, 177}

func TestCheckTraps(t *testing.T) { // P7.2: each number of a trap at each place, at the end, and where there is nothing
	begins := []int{0, 1, 4, 5, 7}
	for from := -2; from <= 10; from++ {
		for to := -2; to <= 10; to++ {
			for handler := -2; handler <= 10; handler++ {
				m := api.Method{Code: trapped, Traps: []api.Trap{{From: from, To: to, Handler: handler, Type: from - to}}}
				right := slices.Contains(begins, from) && slices.Contains(begins, handler) && (slices.Contains(begins, to) || to == 8)
				if right {
					takes(t, m)
				} else {
					refuses(t, m, api.ErrFlow)
				}
			}
		}
	}
}

func TestCheckTrapsAtEnds(t *testing.T) { // P7.2, P1, P6: numbers at their ends; of the class any
	for _, n := range ends() {
		right := api.Trap{From: 1, To: 8, Handler: 4, Type: n}
		takes(t, api.Method{Code: trapped, Traps: []api.Trap{right}})
		for _, x := range []api.Trap{trap(n, 8, 4, 0), trap(1, n, 4, 0), trap(1, 8, n, 0), trap(n, n, n, n)} {
			checks(t, api.Method{Code: trapped, Traps: []api.Trap{x}})
			if n < 0 || n > 8 {
				refuses(t, api.Method{Code: trapped, Traps: []api.Trap{x}}, api.ErrFlow)
				refuses(t, api.Method{Code: trapped, Traps: []api.Trap{right, x, right}}, api.ErrFlow)
			}
		}
	}
}

func TestCheckManyTraps(t *testing.T) { // P7.2: one of several that errs, the last one too
	right := []api.Trap{trap(0, 8, 0, 0), trap(7, 8, 7, 3), trap(1, 4, 5, -9), trap(4, 1, 4, 0), trap(5, 5, 5, 5)}
	takes(t, api.Method{Code: trapped, Traps: right})
	for n := range right {
		for _, x := range []api.Trap{trap(8, 8, 0, 0), trap(0, 8, 8, 0), trap(0, 9, 0, 0), trap(2, 8, 0, 0), trap(0, 3, 0, 0), trap(0, 8, 6, 0), trap(-1, 8, 0, 0), trap(0, -1, 0, 0), trap(0, 8, -1, 0)} {
			wrong := slices.Clone(right)
			wrong[n] = x
			refuses(t, api.Method{Code: trapped, Traps: wrong}, api.ErrFlow)
		}
	}
	many := slices.Repeat(right, 20000)
	takes(t, api.Method{Code: trapped, Traps: many})
	refuses(t, api.Method{Code: trapped, Traps: append(many, api.Trap{To: 9})}, api.ErrFlow)
}

func TestCheckTrapsWithLeads(t *testing.T) { // P7.2: one of both errs; the end is no place to lead to, even where a trap ends there
	for _, x := range []struct {
		to    int
		traps []api.Trap
		right bool
	}{
		{4, []api.Trap{trap(0, 5, 4, 0)}, true}, {4, []api.Trap{trap(0, 5, 5, 0)}, false}, {4, []api.Trap{trap(5, 5, 4, 0)}, false},
		{5, []api.Trap{trap(0, 5, 4, 0)}, false}, {5, nil, false}, {2, []api.Trap{trap(0, 5, 4, 0)}, false}, {0, []api.Trap{trap(0, 2, 4, 0)}, false},
		{1, []api.Trap{trap(0, 4, 1, 0), trap(1, 0, 0, 0)}, true},
	} {
		m := api.Method{Code: slices.Concat([]byte{3}, jump(153, 1, x.to), []byte{177}), Traps: x.traps}
		if x.right {
			takes(t, m)
		} else {
			refuses(t, m, api.ErrFlow)
		}
	}
}

func TestCheckLooksAtNothingElse(t *testing.T) { // P7.2: all else of a method at any value
	for _, n := range ends() {
		m := api.Method{Flags: n, Name: n, Desc: -n, Stack: n, Locals: n, Maps: []byte{200, 17}, Code: trapped, Traps: []api.Trap{trap(0, 8, 4, n)}}
		takes(t, m)
		m.Traps[0].Handler = 8
		refuses(t, m, api.ErrFlow)
		m.Traps, m.Code = nil, []byte{3}
		refuses(t, m, api.ErrFlow)
		m.Code = []byte{17}
		refuses(t, m, api.ErrShort)
	}
}

func TestCheckOfSmallCodes(t *testing.T) { // P7.2: all codes of few bytes, with no trap and with some
	eachCode([]byte{0, 2, 3, 16, 153, 167, 177, 200, 255}, 5, func(code []byte) {
		checks(t, api.Method{Code: code})
		checks(t, api.Method{Code: code, Traps: []api.Trap{trap(0, len(code), 0, 0)}})
		checks(t, api.Method{Code: code, Traps: []api.Trap{trap(0, 0, 0, 0), trap(1, 3, 2, 0)}})
	})
}

func TestCheckByChance(t *testing.T) { // P7.2, P7.3: longer codes by chance, of which many are right, with traps that seldom err
	chance := rand.New(rand.NewSource(77))
	const most = 30
	count := 0
	for range 50000 {
		var code []byte
		var at []int
		for range 1 + chance.Intn(most) {
			at = append(at, len(code))
			switch op := chance.Intn(200); shapeOf[op] {
			case 0:
			case 't':
				code = append(code, jump(op, len(code), at[chance.Intn(len(at))]+chance.Intn(50)/49)...)
			default:
				code = append(code, alone(op)...)
			}
		}
		at = append(at, len(code))
		code = append(code, byte(waysOut[1+chance.Intn(5)]))
		m := api.Method{Code: code}
		for range chance.Intn(4) {
			place := func() int { return at[chance.Intn(len(at))] + chance.Intn(50)/49 }
			m.Traps = append(m.Traps, api.Trap{From: place(), To: place(), Handler: place()})
		}
		checks(t, m)
		if l, e := flow.Check(m); e == api.OK && len(l) > 0 {
			count++
		}
	}
	if count < 10000 || count > 49000 {
		t.Errorf("%d were right", count)
	}
}
