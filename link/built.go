package link

import "understudy/api"

// Names of classes that are built in, and that others are told by.
const (
	object    = "Object"
	throwable = "Throwable"
	system    = "Sys"
)

// Names of methods that are told by them, and the descriptor of those that take and answer nothing.
const (
	begin    = "<init>"
	mainName = "main"
	plain    = "()V"
)

// builtIns answers the classes that each program has, by their numbers.
func builtIns() []builtIn {
	l := []builtIn{
		{title: object, ownMethods: simple(begin, "wait", "notify", "notifyAll")},
		{title: throwable, above: object, ownMethods: simple(begin)},
		{title: "Thread", above: object, ownMethods: simple(begin, "start", "join", "run")},
		{title: system, above: object, ownMethods: []member{
			{name: "read", desc: "()I", flags: api.Static},
			{name: "clock", desc: "()J", flags: api.Static},
			{name: "write", desc: "(J)V", flags: api.Static},
		}},
	}
	for _, name := range []string{"NullError", "BoundsError", "CastError", "DivError", "OwnerError", "MemoryError", "DepthError", "SizeError", "StoreError"} {
		l = append(l, builtIn{title: name, above: throwable, ownMethods: simple(begin)})
	}
	return l
}

// simple answers methods of those names that take and answer nothing.
func simple(names ...string) []member {
	var l []member
	for _, name := range names {
		l = append(l, member{name: name, desc: plain})
	}
	return l
}
