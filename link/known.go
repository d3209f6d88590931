package link

import (
	"bytes"
	"slices"

	"understudy/api"
	"understudy/class"
	"understudy/pool"
)

// known is a class that a program knows.
type known interface {
	name() string
	super() string // the name of the class right above: of Object the empty text
	fields() []member
	methods() []member
	method(place int) api.Method // what can be told of one of the methods
}

// fieldsOf answers the fields of k.
func fieldsOf(k known) []member { return k.fields() }

// methodsOf answers the methods of k.
func methodsOf(k known) []member { return k.methods() }

// member is a field or a method, by what it is found, and what is told of it then.
type member struct {
	name  string
	desc  string
	flags int
	slot  int // of a field
}

// isStatic tells whether m belongs to the class, and not to its objects.
func (m member) isStatic() bool { return m.flags == api.Static }

// placeOf tells the first place in l of a member with that name and descriptor, or -1.
func placeOf(l []member, name, desc string) int {
	return slices.IndexFunc(l, func(m member) bool { return m.name == name && m.desc == desc })
}

// builtIn is a class that each program has.
type builtIn struct {
	title      string
	above      string
	ownMethods []member
}

func (b builtIn) name() string { return b.title }

func (b builtIn) super() string { return b.above }

func (b builtIn) fields() []member { return nil }

func (b builtIn) methods() []member { return b.ownMethods }

func (b builtIn) method(place int) api.Method { return api.Method{Flags: b.ownMethods[place].flags} }

// listed is a class of the list, which shares nothing with what was handed in.
type listed struct {
	number     int
	class      api.Class
	ownFields  []member
	ownMethods []member
}

// newListed makes of c, which is right, the class of that number.
func newListed(c api.Class, number int) *listed {
	made := &listed{number: number, class: cloneClass(c)}
	for _, f := range c.Fields {
		made.ownFields = append(made.ownFields, newMember(c.Pool, f.Name, f.Desc, f.Flags))
	}
	for _, m := range c.Methods {
		made.ownMethods = append(made.ownMethods, newMember(c.Pool, m.Name, m.Desc, m.Flags))
	}
	return made
}

// newMember makes a member of the places of its name and its descriptor in p.
func newMember(p []api.Const, name, desc, flags int) member {
	n, _ := pool.Text(p, name)
	d, _ := pool.Text(p, desc)
	return member{name: n, desc: d, flags: flags}
}

func (c *listed) name() string { return class.Name(c.class) }

func (c *listed) super() string { return class.Super(c.class) }

func (c *listed) fields() []member { return c.ownFields }

func (c *listed) methods() []member { return c.ownMethods }

func (c *listed) method(place int) api.Method { return cloneMethod(c.class.Methods[place]) }

// cloneClass answers a class that shares nothing with c.
func cloneClass(c api.Class) api.Class {
	c.Pool, c.Fields, c.Methods = slices.Clone(c.Pool), slices.Clone(c.Fields), slices.Clone(c.Methods)
	for place, m := range c.Methods {
		c.Methods[place] = cloneMethod(m)
	}
	return c
}

// cloneMethod answers a method that shares nothing with m.
func cloneMethod(m api.Method) api.Method {
	m.Code, m.Traps, m.Maps = bytes.Clone(m.Code), slices.Clone(m.Traps), bytes.Clone(m.Maps)
	return m
}
