package rules

import (
	"errors"
	"testing"

	"understudy/api"
)

func TestRefusalOf(t *testing.T) {
	for _, e := range []api.Errno{api.ErrMissing, api.ErrType, api.ErrDepth, api.ErrLocal} {
		past := false
		got := refusalOf(func() {
			refuse(e)
			past = true
		})
		if got != e || past {
			t.Errorf("of %d: %d, %v", e, got, past)
		}
	}
	if e := refusalOf(func() { must(true); mustBeThere(true) }); e != api.OK {
		t.Errorf("of what can be: %d", e)
	}
	if e := refusalOf(func() { must(false) }); e != api.ErrType {
		t.Errorf("of a type that can't be: %d", e)
	}
	if e := refusalOf(func() { mustBeThere(false) }); e != api.ErrMissing {
		t.Errorf("of what is not there: %d", e)
	}
}

func TestRefusalOfFaults(t *testing.T) { // what is no refusal goes on
	for _, do := range []func(){
		func() { panic("a fault") },
		func() { panic(errors.New("a fault")) },
		func() { var l []int; l[len(l)]++ },
		func() { var s *step; s.f.Fresh = true },
	} {
		func() {
			defer func() {
				if recover() == nil {
					t.Errorf("no panic")
				}
			}()
			e := refusalOf(do)
			t.Errorf("passed with %d", e)
		}()
	}
}
