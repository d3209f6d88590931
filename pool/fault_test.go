package pool

import (
	"errors"
	"testing"

	"understudy/api"
	"understudy/wire"
)

// wraps asks that an error tells the place of what is wrong, and what it is.
func wraps(t *testing.T, err error, place int, why api.Errno) {
	t.Helper()
	var f fault
	var e api.Errno
	if !errors.As(err, &f) || f.place != place || !errors.As(err, &e) || e != why || !errors.Is(err, why) || which(err) != why {
		t.Errorf("%v; want the place %d, %d", err, place, why)
	}
}

func TestFaultOfCheck(t *testing.T) { // P4.1: the first place
	text := api.Const{Tag: api.CUtf8}
	wraps(t, checkPool(nil), 0, api.ErrPool)
	wraps(t, checkPool([]api.Const{text, text}), 0, api.ErrPool)
	wraps(t, checkPool([]api.Const{{}, text, {}, {Tag: api.CUtf8, Text: "\xFF"}}), 2, api.ErrPool)
	wraps(t, checkPool([]api.Const{{}, text, {Tag: api.CUtf8, Text: "\xFF"}, {}}), 2, api.ErrUtf)
	wraps(t, checkPool(make([]api.Const, api.MaxPool+1)), api.MaxPool, api.ErrLong)
	if err := checkPool([]api.Const{{}, text}); err != nil || which(err) != api.OK {
		t.Errorf("of a right pool: %v", err)
	}
}

func TestFaultOfDecode(t *testing.T) { // P4.1
	for _, x := range []struct {
		b     string
		place int
		why   api.Errno
	}{
		{"", 0, api.ErrShort},
		{"\x00\x00", 0, api.ErrPool},
		{"\x04\x01", api.MaxPool, api.ErrLong},
		{"\x00\x03\x01\x00\x00", 2, api.ErrShort},
		{"\x00\x03\x01\x00\x00\x02", 2, api.ErrPool},
		{"\x00\x03\x01\x01\x01\x02", 1, api.ErrUtf},
		{"\x00\x03\x01\x00\x00\x07\x00\x02", 2, api.ErrPool},
	} {
		_, err := readPool(wire.NewReader([]byte(x.b)))
		wraps(t, err, x.place, x.why)
	}
}

func TestFaultTells(t *testing.T) {
	if s := (fault{3, api.ErrUtf}).Error(); s != "place 3: error 20" {
		t.Error(s)
	}
}
