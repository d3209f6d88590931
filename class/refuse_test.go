package class

import (
	"testing"

	"understudy/api"
)

func TestRefusalOf(t *testing.T) {
	for _, e := range []api.Errno{api.OK, api.ErrShort, api.ErrLong, api.ErrClass, api.ErrPool} {
		past := false
		got := refusalOf(func() {
			refuse(e)
			past = true
		})
		if got != e || past != (e == api.OK) {
			t.Errorf("of %d: %d, %v", e, got, past)
		}
	}
	if e := refusalOf(func() { must(false) }); e != api.ErrClass {
		t.Errorf("of what is no right class: %d", e)
	}
	if e := refusalOf(func() { must(true) }); e != api.OK {
		t.Errorf("of what is one: %d", e)
	}
}

func TestRefusalOfFaults(t *testing.T) { // what is no refusal goes on
	defer func() {
		if x := recover(); x != "a fault" {
			t.Errorf("%v", x)
		}
	}()
	e := refusalOf(func() { panic("a fault") })
	t.Errorf("passed with %d", e)
}
