package verify

import (
	"errors"
	"strings"
	"testing"

	"understudy/api"
	"understudy/link"
)

// opened answers main of a program of one class, with a Stack of 1 and no locals: its pool has the class None at 7, and Throwable at 9.
func opened(t *testing.T, code ...byte) (*link.Program, *method) {
	t.Helper()
	utf := func(s string) api.Const { return api.Const{Tag: api.CUtf8, Text: s} }
	c := api.Class{This: 2, Super: 4, Pool: []api.Const{{}, utf("A"), {Tag: api.CClass, A: 1}, utf("Object"), {Tag: api.CClass, A: 3}, utf("main"), utf("None"), {Tag: api.CClass, A: 6}, utf("Throwable"), {Tag: api.CClass, A: 8}, utf("()V"), utf("Code")}}
	c.Methods = []api.Method{{Flags: api.Static, Name: 5, Desc: 10, Stack: 1, Code: code}}
	p, e := link.Build([]api.Class{c})
	if e != api.OK {
		t.Fatalf("Build: %d", e)
	}
	m, e := open(p, 13, 0)
	if e != api.OK {
		t.Fatalf("open: %d", e)
	}
	return p, m
}

func TestEnd(t *testing.T) { // P12.1: a frame that is left at the end. By the calls it can't be: flow.Check refuses what falls out, with ErrFlow, ahead of it
	_, m := opened(t, 3, 87, 3, 87, 167, 0, 3, 177) // iconst_0, pop, iconst_0, pop, goto the next one, return
	m.maps = []api.Map{{At: 7}}
	all := m.list
	for n := range len(all) + 1 {
		m.list = all[:n]
		want := api.ErrEnd
		if n >= 5 {
			want = api.OK
		}
		if e := m.walk(); e != want {
			t.Errorf("walk through %d: %d, want %d", n, e, want)
		}
	}
	m.list = all[1:2] // an error ahead of the end
	if e := m.walk(); e != api.ErrDepth {
		t.Errorf("walk through pop: %d", e)
	}
}

func TestTrapOfNone(t *testing.T) { // P12.1: a wrong trap that no instruction's place reaches. By the calls it can't be: From is where an instruction begins, ahead of To
	p, m := opened(t, 17, 0, 0, 87, 177) // sipush at 0, pop at 3, return at 4
	for from := -1; from < 7; from++ {
		for to := -1; to < 7; to++ {
			for _, class := range []int{0, 7, 9} {
				want := api.OK
				for _, at := range []int{0, 3, 4} {
					if from <= at && at < to {
						want = api.ErrFrame
					}
				}
				m.catches = []catch{m.catching(p, api.Trap{From: from, To: to, Handler: 4, Type: class})}
				if e := m.walk(); e != want {
					t.Errorf("walk with a trap from %d to %d of %d: %d, want %d", from, to, class, e, want)
				}
			}
		}
	}
}

func TestFault(t *testing.T) { // errors are wrapped with class and method, and found
	p, _ := opened(t, 87, 177)
	err := check(p, 13, 0)
	var f fault
	if !errors.As(err, &f) || f.class != 13 || f.method != 0 || which(err) != api.ErrDepth || !errors.Is(err, api.ErrDepth) {
		t.Errorf("check: %v", err)
	}
	if s := err.Error(); !strings.Contains(s, "13") || !strings.Contains(s, "0") || !strings.Contains(s, api.ErrDepth.Error()) {
		t.Errorf("check tells %q", s)
	}
	if e := which(nil); e != api.OK {
		t.Errorf("which of none: %d", e)
	}
	p, _ = opened(t, 177)
	if err := check(p, 13, 0); err != nil {
		t.Errorf("check: %v", err)
	}
	if err := check(p, 13, 1); which(err) != api.ErrMissing {
		t.Errorf("check of none: %v", err)
	}
}
