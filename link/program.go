package link

import (
	"iter"

	"understudy/api"
	"understudy/kind"
)

// gather makes a program of those that are built in and the right classes of l, whether they can stand together or not. Of several classes with a name the first one is found.
func gather(l []api.Class) *Program {
	p := &Program{numbers: map[string]int{}}
	for _, b := range builtIns() {
		p.add(b)
	}
	for _, c := range l {
		p.add(newListed(c, len(p.classes)))
	}
	return p
}

// add lays the class k behind the others.
func (p *Program) add(k known) {
	if _, isThere := p.numbers[k.name()]; !isThere {
		p.numbers[k.name()] = len(p.classes)
	}
	p.classes = append(p.classes, k)
}

// lay gives each field its slot.
func (p *Program) lay() {
	statics := 0
	for n := range p.classes {
		own := len(p.Slots(p.Super(n)))
		l := p.classes[n].fields()
		for place := range l {
			if l[place].isStatic() {
				l[place].slot = statics
				statics++
				continue
			}
			l[place].slot = own
			own++
		}
	}
}

// isMade tells whether Build made p.
func (p *Program) isMade() bool { return p != nil && len(p.classes) > 0 }

// has tells whether there is a class n.
func (p *Program) has(n int) bool { return n >= 0 && n < p.Len() }

// listedAt answers the class n, if it is one of the list.
func (p *Program) listedAt(n int) (*listed, bool) {
	if !p.has(n) {
		return nil, false
	}
	c, isListed := p.classes[n].(*listed)
	return c, isListed
}

// none goes over no class.
func none(func(int) bool) {}

// alone goes over the class n, if it is there.
func (p *Program) alone(n int) iter.Seq[int] {
	return func(yield func(int) bool) {
		if p.has(n) {
			yield(n)
		}
	}
}

// up goes over the class n, if it is there, and all that are above it. It ends where supers lead to Object.
func (p *Program) up(n int) iter.Seq[int] {
	return func(yield func(int) bool) {
		for at := n; p.has(at) && yield(at); {
			at = p.Super(at)
		}
	}
}

// first finds the member with that name and descriptor in the first class that has one, among its fields or its methods, which of answers.
func (p *Program) first(classes iter.Seq[int], of func(k known) []member, name, desc string) (api.Member, api.Errno) {
	if !p.isMade() {
		return api.Member{}, api.ErrZero
	}
	for n := range classes {
		l := of(p.classes[n])
		if place := placeOf(l, name, desc); place >= 0 {
			return api.Member{Class: n, Place: place, Desc: desc, Static: l[place].isStatic(), Slot: l[place].slot}, api.OK
		}
	}
	return api.Member{}, api.ErrMissing
}

// typesOf answers the types of the fields of l that are Static, or of those that are not.
func typesOf(l []member, isStatic bool) []api.Type {
	var types []api.Type
	for _, m := range l {
		if m.isStatic() == isStatic {
			t, _ := kind.Field(m.desc)
			types = append(types, t)
		}
	}
	return types
}
