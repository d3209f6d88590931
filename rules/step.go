package rules

import (
	"understudy/api"
	"understudy/kind"
	"understudy/ops"
)

// step is a plain instruction on its way through its rule, and the frame as far as it has come.
type step struct {
	*Place
	i api.Instr
	f api.Frame
}

// do goes through the rule of the instruction. Each group of rules tells whether the instruction is one of it.
func (s *step) do() {
	name := ops.Name(s.i.Op)
	for _, group := range [...]func(name string) bool{s.simple, s.locals, s.arrays, s.arithmetic, s.leads, s.returns, s.members, s.objects} {
		if group(name) {
			return
		}
	}
	refuse(api.ErrType)
}

// push lays t on the stack.
func (s *step) push(t api.Type) {
	if len(s.f.Stack) >= s.stack {
		refuse(api.ErrDepth)
	}
	s.f.Stack = append(s.f.Stack, t)
}

// take takes the last type from the stack.
func (s *step) take() api.Type {
	last := len(s.f.Stack) - 1
	if last < 0 {
		refuse(api.ErrDepth)
	}
	t := s.f.Stack[last]
	s.f.Stack = s.f.Stack[:last]
	return t
}

// takeThat takes the last type from the stack, which must be as is tells.
func (s *step) takeThat(is func(t api.Type) bool) api.Type {
	t := s.take()
	must(is(t))
	return t
}

// pop takes the last type from the stack, which must be such that it may stand for t.
func (s *step) pop(t api.Type) { must(kind.Assign(s.tree, s.take(), t)) }

// popPush takes t from the stack, and lays u there.
func (s *step) popPush(t, u api.Type) {
	s.pop(t)
	s.push(u)
}

// local answers the place of the local that is asked.
func (s *step) local() *api.Type {
	if s.i.A < 0 || s.i.A >= len(s.f.Locals) {
		refuse(api.ErrLocal)
	}
	return &s.f.Locals[s.i.A]
}

// localThat answers the local that is asked, which must be as is tells.
func (s *step) localThat(is func(t api.Type) bool) api.Type {
	t := *s.local()
	must(is(t))
	return t
}

// store makes t the local that is asked.
func (s *step) store(t api.Type) { *s.local() = t }

// become makes all types that are as is tells t, in locals and on the stack.
func (s *step) become(is func(t api.Type) bool, t api.Type) {
	for _, l := range [...][]api.Type{s.f.Locals, s.f.Stack} {
		for n := range l {
			if is(l[n]) {
				l[n] = t
			}
		}
	}
}
