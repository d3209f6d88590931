package rules

import (
	"slices"

	"understudy/api"
	"understudy/kind"
	"understudy/maps"
	"understudy/ops"
	"understudy/pool"
)

// typeAt answers the type of the class at the place n of the pool, and whether there is one. A class that it names, alone or in an array, must be in the program.
func (x *Place) typeAt(n int) (api.Type, bool) {
	text, _ := pool.Class(x.pool, n)
	t, isType := maps.Type(text) // where no class is the text is empty, which is no type's
	if !isType || namesClass(t) && x.program.Find(t.Name) < 0 {
		return api.Type{}, false
	}
	return t, true
}

// newNames answers the name of the class that the new at the place at of the code names: the empty one where no new is.
func (x *Place) newNames(at int) string {
	i, _ := ops.Decode(x.code, at)
	if ops.Name(i.Op) != "new" {
		return ""
	}
	name, _ := pool.Class(x.pool, i.A)
	return name
}

// beginsThis tells whether the class with that name may begin what a constructor of the place makes.
func (x *Place) beginsThis(name string) bool {
	return name == x.program.Name(x.class) || name == x.program.Name(x.program.Super(x.class))
}

// member is a field or a method that a constant names.
type member struct {
	class api.Type   // the class that is named, in which or above which it is
	taken []api.Type // of a method
	value api.Type   // what the field is, or the method answers
}

// constant asks for a constant with that tag.
func (s *step) constant(tag int) {
	n := s.i.A
	mustBeThere(n >= 1 && n < len(s.pool) && s.pool[n].Tag == tag)
}

// typeNamed answers the type of the class that is named.
func (s *step) typeNamed() api.Type {
	t, isThere := s.typeAt(s.i.A)
	mustBeThere(isThere)
	return t
}

// named answers the class, the name and the descriptor of what is named, which must have that tag.
func (s *step) named(tag int) (string, string, string) {
	s.constant(tag)
	class, name, desc, _ := pool.Ref(s.pool, s.i.A)
	return class, name, desc
}

// field answers the field that is named, which must be static, or must not be.
func (s *step) field(isStatic bool) member {
	class, name, desc := s.named(api.CField)
	m, e := s.program.Field(class, name, desc)
	mustBeThere(e == api.OK && m.Static == isStatic)
	value, _ := kind.Field(desc)
	return member{class: classType(class), value: value}
}

// method answers the method that is named, which must be static, or must not be.
func (s *step) method(isStatic bool) member {
	class, name, desc := s.named(api.CMethod)
	m, e := s.program.Look(class, name, desc)
	mustBeThere(e == api.OK && m.Static == isStatic)
	return called(class, desc)
}

// constructor answers the method that is named, which must begin objects of just that class.
func (s *step) constructor() member {
	class, name, desc := s.named(api.CMethod)
	_, e := s.program.Own(class, name, desc)
	mustBeThere(e == api.OK && name == beginName)
	return called(class, desc)
}

// called answers the method with that descriptor that was found from the class on.
func called(class, desc string) member {
	taken, value, _ := kind.Method(desc)
	return member{class: classType(class), taken: taken, value: value}
}

// popTaken takes what the method m takes from the stack, the last one first.
func (s *step) popTaken(m member) {
	for _, t := range slices.Backward(m.taken) {
		s.pop(t)
	}
}
