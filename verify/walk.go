package verify

import (
	"understudy/api"
	"understudy/flow"
)

// way is the way through a method, with the frame that came from the instruction ahead, if one did.
type way struct {
	*method
	frame api.Frame
	came  bool
}

// walk goes through the instructions from the first one on, and tells the first error of all.
func (m *method) walk() api.Errno {
	w := &way{method: m, frame: m.place.First(), came: true}
	e := api.OK
through:
	for i, held := range m.instructions() {
		if e = w.enter(held); e != api.OK {
			break through
		}
		for _, c := range m.catches {
			if c.has(i.At) && !w.isCaught(c) {
				e = api.ErrFrame
				break through
			}
		}
		if e = w.pass(i); e != api.OK {
			break through
		}
	}
	if e == api.OK && w.came {
		e = api.ErrEnd
	}
	return e
}

// enter makes the frame that of the instruction that comes: the map's, which must take what came, or just what came.
func (w *way) enter(held *api.Frame) api.Errno {
	switch {
	case held == nil && w.came:
		return api.OK
	case held == nil || w.came && !w.place.Assign(w.frame, *held):
		return api.ErrFrame
	}
	w.frame = *held
	return api.OK
}

// isCaught tells whether what c catches may be thrown at the instruction ahead of which the frame is.
func (w *way) isCaught(c catch) bool {
	thrown := api.Frame{Locals: w.frame.Locals, Stack: c.stack, Fresh: w.frame.Fresh}
	return len(c.stack) > 0 && w.takes(c.Handler, thrown)
}

// pass makes the frame that which the instruction i leaves behind, if it may lead with it where it does.
func (w *way) pass(i api.Instr) api.Errno {
	f, e := w.place.Step(i, w.frame)
	if e != api.OK {
		return e
	}
	if to, leads := flow.Leads(i); leads && !w.takes(to, f) {
		return api.ErrFrame
	}
	w.frame, w.came = f, flow.Falls(i)
	return api.OK
}
