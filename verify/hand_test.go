package verify_test

import (
	"cmp"
	"regexp"
	"slices"
	"strings"

	"understudy/api"
	"understudy/flow"
	"understudy/link"
	"understudy/maps"
	"understudy/ops"
	"understudy/rules"
)

// Kinds of what is wrong at an instruction, in the order in which the chapter names them.
const (
	byMap = iota
	byTrap
	byStep
	byLead
)

// problem is something that is wrong at the instruction n.
type problem struct {
	n, kind int
	e       api.Errno
}

// hand reads a method by hand: it gathers all that is wrong, as far as frames are known, and sorts it then.
type hand struct {
	x        *rules.Place
	classes  []api.Class
	pool     []api.Const
	frames   map[int]api.Frame
	problems []problem
}

// params finds what a method takes, in its descriptor.
var params = regexp.MustCompile(`\[*(?:[IJ]|L[^;]*;)`)

// textAt answers the text at the place n.
func textAt(p []api.Const, n int) string { return p[n].Text }

// classAt answers the text of the class at the place n.
func classAt(p []api.Const, n int) string { return p[p[n].A].Text }

// localsOf tells how many locals m needs at its beginning.
func localsOf(p []api.Const, m api.Method) int {
	taken, _, _ := strings.Cut(textAt(p, m.Desc), ")")
	n := len(params.FindAllString(taken, -1))
	if m.Flags == 0 {
		n++
	}
	return n
}

// mayBeThrown tells whether the program has a class of that name, below Throwable.
func (h *hand) mayBeThrown(name string) bool {
	if slices.Contains(strings.Fields("Throwable NullError BoundsError CastError DivError OwnerError MemoryError DepthError SizeError StoreError"), name) {
		return true
	}
	for _, c := range h.classes {
		if classAt(c.Pool, c.This) == name {
			return h.mayBeThrown(classAt(c.Pool, c.Super))
		}
	}
	return false
}

// need lays a problem, unless all is right.
func (h *hand) need(right bool, n, kind int, e api.Errno) {
	if !right {
		h.problems = append(h.problems, problem{n, kind, e})
	}
}

// fits tells whether f may stand where the map at the place at is.
func (h *hand) fits(f api.Frame, at int) bool {
	g, isThere := h.frames[at]
	return isThere && h.x.Assign(f, g)
}

// traps looks at the traps that have the instruction n, which begins at the place at.
func (h *hand) traps(l []api.Trap, n, at int, f api.Frame) {
	for _, t := range l {
		if at < t.From || at >= t.To {
			continue
		}
		name := "Throwable"
		if t.Type != 0 {
			name = classAt(h.pool, t.Type)
		}
		g := api.Frame{Locals: f.Locals, Stack: []api.Type{{K: api.KRef, Name: name}}, Fresh: f.Fresh}
		h.need(h.mayBeThrown(name) && h.fits(g, t.Handler), n, byTrap, api.ErrFrame)
	}
}

// instructions looks at all instructions for which there is a frame. Where it is missing, or what comes of one can't be told, it goes on at the next map.
func (h *hand) instructions(m api.Method, l []api.Instr) {
	var f *api.Frame
	first := h.x.First()
	f = &first
	for n, i := range l {
		if g, isThere := h.frames[i.At]; isThere {
			h.need(f == nil || h.x.Assign(*f, g), n, byMap, api.ErrFrame)
			f = &g
		}
		if f == nil {
			h.need(false, n, byMap, api.ErrFrame)
			continue
		}
		h.traps(m.Traps, n, i.At, *f)
		g, e := h.x.Step(i, *f)
		f = &g
		if e != api.OK {
			h.need(false, n, byStep, e)
			f = nil
			continue
		}
		name := ops.Name(i.Op)
		if strings.HasPrefix(name, "if") || name == "goto" {
			h.need(h.fits(g, i.A), n, byLead, api.ErrFrame)
		}
		if name == "goto" || strings.HasSuffix(name, "return") || name == "athrow" {
			f = nil
		}
	}
	h.need(f == nil, len(l), byMap, api.ErrEnd)
}

// byHand answers what Method answers of the method of the class, as the chapter tells it. The classes are those of p.
func byHand(p *link.Program, classes []api.Class, class, method int) api.Errno {
	x, e := rules.At(p, class, method)
	if e != api.OK {
		return e
	}
	c := classes[class-firstOwn]
	m := c.Methods[method]
	if localsOf(c.Pool, m) > m.Locals {
		return api.ErrLocal
	}
	l, e := flow.Check(m)
	if e != api.OK {
		return e
	}
	frames, e := maps.Decode(c.Pool, m.Maps)
	if e != api.OK {
		return e
	}
	h := &hand{x: x, classes: classes, pool: c.Pool, frames: map[int]api.Frame{}}
	begins := map[int]bool{}
	for _, i := range l {
		begins[i.At] = true
	}
	for _, f := range frames {
		if !begins[f.At] || len(f.Frame.Locals) != m.Locals || len(f.Frame.Stack) > m.Stack {
			return api.ErrMaps
		}
		h.frames[f.At] = f.Frame
	}
	h.instructions(m, l)
	slices.SortStableFunc(h.problems, func(a, b problem) int { return cmp.Or(a.n-b.n, a.kind-b.kind) })
	if len(h.problems) > 0 {
		return h.problems[0].e
	}
	return api.OK
}
