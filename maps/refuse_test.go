package maps

import (
	"testing"

	"understudy/api"
)

func TestUnlessRefused(t *testing.T) {
	for _, e := range []api.Errno{api.OK, api.ErrShort, api.ErrMaps} {
		l, got := unlessRefused(func() []api.Map {
			if e != api.OK {
				panic(e)
			}
			return make([]api.Map, 3)
		})
		if got != e || (len(l) == 3) != (e == api.OK) || e != api.OK && l != nil {
			t.Errorf("of %d: %v, %d", e, l, got)
		}
	}
	if _, e := unlessRefused(func() []api.Map { must(true); return nil }); e != api.OK {
		t.Errorf("of what can be: %d", e)
	}
	if _, e := unlessRefused(func() []api.Map { must(false); return nil }); e != api.ErrMaps {
		t.Errorf("of what can't be: %d", e)
	}
}

func TestUnlessRefusedOfFaults(t *testing.T) { // what is no refusal goes on
	defer func() {
		if recover() == nil {
			t.Errorf("no panic")
		}
	}()
	l, e := unlessRefused(func() []api.Map { panic("a fault") })
	t.Errorf("passed with %v, %d", l, e)
}
