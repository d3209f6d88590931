package link

import (
	"strings"

	"understudy/api"
	"understudy/kind"
)

// rule is what must hold of each class of a right list.
type rule struct {
	holds func(p *Program, c *listed) bool
}

// rules answers what must hold, each behind those that it leans on.
func rules() []rule {
	return []rule{
		{hasOwnName},
		{leadsToObject},
		forEach(fieldsOf, isField),
		forEach(methodsOf, isMethod),
		{agrees},
	}
}

// isRight tells whether p was gathered from a right list.
func (p *Program) isRight() bool {
	for _, r := range rules() {
		for n := range p.classes {
			if c, isListed := p.listedAt(n); isListed && !r.holds(p, c) {
				return false
			}
		}
	}
	return p.Main().Static
}

// hasOwnName tells whether c has a right name, which no class ahead of it has.
func hasOwnName(p *Program, c *listed) bool {
	return isName(c.name()) && p.Find(c.name()) == c.number
}

// leadsToObject tells whether the supers of c, of which none is Sys, lead to Object. They may go round, or lead to nothing.
func leadsToObject(p *Program, c *listed) bool {
	return c.super() != system && kind.Below(p.Tree(), c.name(), object)
}

// forEach makes the rule that what is asked holds of all members that of answers, and that no two of them have both name and descriptor.
func forEach(of func(k known) []member, isRight func(m member) bool) rule {
	return rule{func(_ *Program, c *listed) bool {
		l := of(c)
		for place, m := range l {
			if !isRight(m) || placeOf(l, m.name, m.desc) != place {
				return false
			}
		}
		return true
	}}
}

// agrees tells whether the methods of c are Static just as those of classes above are. The nearest one tells for all, as the classes above are asked the same.
func agrees(p *Program, c *listed) bool {
	for _, m := range c.methods() {
		above, e := p.Look(c.super(), m.name, m.desc)
		if e == api.OK && above.Static != m.isStatic() {
			return false
		}
	}
	return true
}

// isName tells whether a class, a field or a method may have that name.
func isName(name string) bool {
	return name != "" && !strings.ContainsAny(name, ".;[/<>")
}

// isField tells whether a class may have the field m.
func isField(m member) bool {
	_, e := kind.Field(m.desc)
	return isName(m.name) && e == api.OK
}

// isMethod tells whether a class may have the method m.
func isMethod(m member) bool {
	_, answer, e := kind.Method(m.desc)
	if m.name == begin {
		return e == api.OK && answer.K == api.KVoid && !m.isStatic()
	}
	return e == api.OK && isName(m.name)
}
