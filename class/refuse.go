package class

import "understudy/api"

// refuse leaves what goes on by a panic, where e is an error.
func refuse(e api.Errno) {
	if e != api.OK {
		panic(e)
	}
}

// must refuses what is no right class.
func must(right bool) {
	if !right {
		refuse(api.ErrClass)
	}
}

// refusalOf goes through with do, and tells the error by which it was refused.
func refusalOf(do func()) (e api.Errno) {
	defer func() {
		switch x := recover().(type) {
		case nil:
		case api.Errno:
			e = x
		default:
			panic(x) // no refusal, but a fault of the program: it must not pass for a right class
		}
	}()
	do()
	return api.OK
}
