package pool

import (
	"errors"
	"strconv"

	"understudy/api"
	"understudy/text"
)

// fault is what can't be in a pool, and the place where it shows.
type fault struct {
	place int
	why   api.Errno
}

// Error tells the place, and what is wrong there.
func (f fault) Error() string { return "place " + strconv.Itoa(f.place) + ": " + f.why.Error() }

// Unwrap answers what is wrong alone.
func (f fault) Unwrap() error { return f.why }

// which tells what is wrong of an error that wraps it; of no error OK.
func which(err error) api.Errno {
	var why api.Errno
	if errors.As(err, &why) {
		return why
	}
	return api.OK
}

// checkCount tells what is wrong with a pool of so many places. Bytes are asked for it as well, ahead of all that they hold.
func checkCount(n int) error {
	switch {
	case n > api.MaxPool:
		return fault{api.MaxPool, api.ErrLong}
	case n == 0:
		return fault{0, api.ErrPool}
	}
	return nil
}

// checkConst tells what is wrong with c, a constant of p that is not at the place 0.
func checkConst(p []api.Const, c api.Const) api.Errno {
	s, isTag := shapeOf(c.Tag)
	if !isTag || !s.holds(c) || !s.isLed(p, c) {
		return api.ErrPool
	}
	n := text.Len(c.Text)
	if n > api.MaxName || n == 0 && c.Text != "" { // of what is no right UTF-8 the length is 0
		return api.ErrUtf
	}
	return api.OK
}

// checkPool tells what is wrong at the first place of p where something is.
func checkPool(p []api.Const) error {
	if err := checkCount(len(p)); err != nil {
		return err
	}
	if p[0] != (api.Const{}) {
		return fault{0, api.ErrPool}
	}
	for i := 1; i < len(p); i++ {
		if e := checkConst(p, p[i]); e != api.OK {
			return fault{i, e}
		}
	}
	return nil
}

// Check tells what is wrong with the pool p.
func Check(p []api.Const) api.Errno { return which(checkPool(p)) }
