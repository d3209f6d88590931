package lock_test

import (
	"testing"

	"understudy/api"
	"understudy/lock"
)

// errsZero asks that all calls of locks answer that they are none.
func errsZero(t *testing.T, l *lock.Locks, r, who int) {
	t.Helper()
	if ok, e := l.Enter(r, who); ok || e != api.ErrZero {
		t.Errorf("Enter(%d, %d): %t, %d", r, who, ok, e)
	}
	if e := l.Exit(r, who); e != api.ErrZero {
		t.Errorf("Exit(%d, %d): %d", r, who, e)
	}
	if x, n := l.Owner(r); x != -1 || n != 0 {
		t.Errorf("Owner(%d): %d, %d", r, x, n)
	}
	if e := l.Wait(r, who); e != api.ErrZero {
		t.Errorf("Wait(%d, %d): %d", r, who, e)
	}
	for _, all := range []bool{false, true} {
		if told, e := l.Tell(r, who, all); len(told) != 0 || e != api.ErrZero {
			t.Errorf("Tell(%d, %d, %t): %v, %d", r, who, all, told, e)
		}
	}
	if ok, e := l.Back(r, who); ok || e != api.ErrZero {
		t.Errorf("Back(%d, %d): %t, %d", r, who, ok, e)
	}
	if w := l.Waits(r); len(w) != 0 {
		t.Errorf("Waits(%d): %v", r, w)
	}
	if l.Free(r, who) {
		t.Errorf("Free(%d, %d)", r, who)
	}
	if c := l.Copy(); c != nil {
		t.Errorf("Copy: %v", c)
	}
}

func TestZero(t *testing.T) { // P15.3, P1: locks that are nil, and such that no call made, and once more
	var none *lock.Locks
	var unmade lock.Locks
	for range 2 {
		for _, l := range []*lock.Locks{none, &unmade, {}, new(lock.Locks), none.Copy(), unmade.Copy()} {
			for _, r := range edges() {
				for _, who := range edges() {
					errsZero(t, l, r, who)
				}
			}
		}
	}
}
