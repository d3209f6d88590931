package verify

import (
	"iter"

	"understudy/api"
	"understudy/flow"
	"understudy/kind"
	"understudy/link"
	"understudy/maps"
	"understudy/rules"
)

// throwable is the name of the class of all that is thrown.
const throwable = "Throwable"

// method is a method, and what its instructions are held against.
type method struct {
	place   *rules.Place
	list    []api.Instr
	maps    []api.Map
	catches []catch
}

// open answers the method of the class, if nothing is wrong with it ahead of what its instructions do.
func open(p *link.Program, class, number int) (*method, api.Errno) {
	place, e := rules.At(p, class, number)
	if e != api.OK {
		return nil, e
	}
	m, _, desc, _ := p.Method(class, number)
	if taken(m, desc) > m.Locals {
		return nil, api.ErrLocal
	}
	list, e := flow.Check(m)
	if e != api.OK {
		return nil, e
	}
	c, _ := p.Class(class)
	l, e := maps.Decode(c.Pool, m.Maps)
	if e != api.OK {
		return nil, e
	}
	if !fit(l, m, list) {
		return nil, api.ErrMaps
	}
	x := &method{place: place, list: list, maps: l}
	for _, t := range m.Traps {
		x.catches = append(x.catches, x.catching(p, t))
	}
	return x, api.OK
}

// taken tells how many locals the method m with that descriptor has at its beginning: this, of what is not static, and what it takes.
func taken(m api.Method, desc string) int {
	types, _, _ := kind.Method(desc)
	if m.Flags == api.Static {
		return len(types)
	}
	return 1 + len(types)
}

// fit tells whether all maps of l are of places where an instruction of the method m begins, and have as many locals as it, and no greater stack.
func fit(l []api.Map, m api.Method, list []api.Instr) bool {
	for _, x := range l {
		if flow.At(list, x.At) < 0 || len(x.Frame.Locals) != m.Locals || len(x.Frame.Stack) > m.Stack {
			return false
		}
	}
	return true
}

// held answers the frame of the map at the place at, or nil.
func (m *method) held(at int) *api.Frame {
	n := maps.Find(m.maps, at)
	if n < 0 {
		return nil
	}
	return &m.maps[n].Frame
}

// takes tells whether there is a map at the place at to whose frame f is assignable.
func (m *method) takes(at int, f api.Frame) bool {
	held := m.held(at)
	return held != nil && m.place.Assign(f, *held)
}

// instructions goes through the instructions from the first one on, each with the frame of the map at its place, or nil.
func (m *method) instructions() iter.Seq2[api.Instr, *api.Frame] {
	return func(yield func(api.Instr, *api.Frame) bool) {
		for _, i := range m.list {
			if !yield(i, m.held(i.At)) {
				return
			}
		}
	}
}

// catch is a trap, and what alone stands on the stack at its handler: nothing, if the trap's class is none that may be thrown.
type catch struct {
	api.Trap
	stack []api.Type
}

// catching answers what becomes of the trap t of the method.
func (m *method) catching(p *link.Program, t api.Trap) catch {
	caught := api.Type{K: api.KRef, Name: throwable}
	if t.Type != 0 {
		caught, _ = m.place.Type(t.Type) // where there is none it is the zero type, which is no class's
	}
	if caught.K != api.KRef || !p.Sub(p.Find(caught.Name), p.Find(throwable)) {
		return catch{Trap: t}
	}
	return catch{t, []api.Type{caught}}
}

// has tells whether the trap has the instruction that begins at the place at.
func (c catch) has(at int) bool { return c.From <= at && at < c.To }
