package class

import (
	"slices"

	"understudy/api"
	"understudy/pool"
)

// placeOf tells the earliest place of the text s in the right pool p: -1 where it is not there.
func placeOf(p []api.Const, s string) int {
	return slices.Index(p, api.Const{Tag: api.CUtf8, Text: s})
}

// isText tells whether a text stands at the place i of p.
func isText(p []api.Const, i int) bool {
	_, is := pool.Text(p, i)
	return is
}

// isClass tells whether a class stands at the place i of p.
func isClass(p []api.Const, i int) bool {
	_, is := pool.Class(p, i)
	return is
}

// isSlots tells whether a method can have so many locals, or words on its stack.
func isSlots(n int) bool { return n >= 0 && n <= api.MaxSlots }

// checkCount refuses more fields, methods or traps than there may be.
func checkCount(n int) {
	if n > api.MaxMembers {
		refuse(api.ErrLong)
	}
}

// checkCounts refuses lists of c that are too long: all of them are looked at ahead of what stands in any.
func checkCounts(c api.Class) {
	checkCount(len(c.Fields))
	checkCount(len(c.Methods))
	for _, m := range c.Methods {
		checkCount(len(m.Traps))
	}
}

// checkMember refuses what fields and methods both have, where it can't be in a class with the pool p.
func checkMember(p []api.Const, flags, name, desc int) {
	must(flags == 0 || flags == api.Static)
	must(isText(p, name))
	must(isText(p, desc))
}

// checkTrap refuses a trap that can't be in a class with the pool p, around a code of size bytes.
func checkTrap(p []api.Const, t api.Trap, size int) {
	must(t.From >= 0 && t.From < t.To && t.To <= size)
	must(t.Handler >= 0 && t.Handler < size)
	must(t.Type == 0 || isClass(p, t.Type))
}

// checkMethod refuses a method that can't be in a class with the pool p.
func checkMethod(p []api.Const, m api.Method) {
	checkMember(p, m.Flags, m.Name, m.Desc)
	must(isSlots(m.Stack) && isSlots(m.Locals))
	must(len(m.Code) >= 1 && len(m.Code) <= api.MaxCode)
	for _, t := range m.Traps {
		checkTrap(p, t, len(m.Code))
	}
	must(len(m.Maps) <= api.MaxCode)
	must(placeOf(p, codeText) > 0)
	must(len(m.Maps) == 0 || placeOf(p, mapsText) > 0)
}

// check refuses c, if it is no right class.
func check(c api.Class) {
	refuse(pool.Check(c.Pool))
	checkCounts(c)
	must(isClass(c.Pool, c.This))
	must(isClass(c.Pool, c.Super))
	for _, f := range c.Fields {
		checkMember(c.Pool, f.Flags, f.Name, f.Desc)
	}
	for _, m := range c.Methods {
		checkMethod(c.Pool, m)
	}
}

// Check tells what is wrong with the class c.
func Check(c api.Class) api.Errno {
	return refusalOf(func() { check(c) })
}
