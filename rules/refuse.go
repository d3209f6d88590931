package rules

import (
	"errors"

	"understudy/api"
)

// refuse leaves what goes on by a panic.
func refuse(e api.Errno) { panic(e) }

// must refuses a type that can't be there.
func must(right bool) {
	if !right {
		refuse(api.ErrType)
	}
}

// mustBeThere refuses a constant, a class, a field or a method that is not as it must be. Each rule asks for it ahead of all else.
func mustBeThere(isThere bool) {
	if !isThere {
		refuse(api.ErrMissing)
	}
}

// refusalOf goes through with do, and tells the error by which it was refused.
func refusalOf(do func()) (e api.Errno) {
	defer func() {
		x := recover()
		if x == nil {
			return
		}
		if err, isError := x.(error); isError {
			if errors.As(err, &e) {
				return
			}
		}
		panic(x) // no refusal, but a fault of the program: it must not pass for a wrong type
	}()
	do()
	return api.OK
}
