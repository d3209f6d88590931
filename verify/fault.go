package verify

import (
	"errors"
	"strconv"

	"understudy/api"
)

// fault is what is wrong with a method of a class, both by their numbers.
type fault struct {
	class  int
	method int
	why    api.Errno
}

// Error tells the class and the method, and what is wrong.
func (f fault) Error() string {
	return "class " + strconv.Itoa(f.class) + ", method " + strconv.Itoa(f.method) + ": " + f.why.Error()
}

// Unwrap answers what is wrong alone.
func (f fault) Unwrap() error { return f.why }

// which tells what is wrong of an error that wraps it; of no error OK.
func which(err error) api.Errno {
	var why api.Errno
	if errors.As(err, &why) {
		return why
	}
	return api.OK
}
