package lock_test

import (
	"testing"

	"understudy/lock"
)

// copyOf answers a copy that must stand just so, and be another one.
func copyOf(t *testing.T, l *lock.Locks) *lock.Locks {
	t.Helper()
	c := l.Copy()
	if c == nil || c == l {
		t.Fatalf("Copy: %p of %p", c, l)
	}
	if look(c) != look(l) {
		t.Errorf("the copy:\n%sof:\n%s", look(c), look(l))
	}
	return c
}

// some answers monitors of which one is owned, at one wait three (one of them a further time), at one some were told.
func some(t *testing.T) *lock.Locks {
	t.Helper()
	l := newLocks(t)
	enters(t, l, -1, 2, 3)
	for _, who := range []int{1, 2, 1, 3} {
		comes(t, l, 0, who, who+1)
	}
	for _, who := range []int{5, 1, 5, 2} {
		comes(t, l, 5, who, who)
	}
	enters(t, l, 5, 3, 2)
	tells(t, l, 5, 3, false, 5)
	tells(t, l, 5, 3, false, 1)
	return l
}

func TestCopyIsSame(t *testing.T) { // P15.2: owners, rows, and counts
	copyOf(t, newLocks(t))
	l := some(t)
	before := look(l)
	c := copyOf(t, copyOf(t, l))
	owns(t, c, -1, 2, 3)
	owns(t, c, 5, 3, 2)
	row(t, c, 0, 1, 2, 1, 3)
	row(t, c, 5, 5, 2)
	exits(t, c, 5, 3, 2)
	backs(t, c, 5, 1, 1)
	tells(t, c, 5, 1, true, 5, 2)
	exits(t, c, 5, 1, 1)
	backs(t, c, 5, 5, 5)
	waits(t, c, 5, 5)
	refusesBack(t, c, 5, 5)
	if look(l) != before {
		t.Errorf("now:\n%swas:\n%s", look(l), before)
	}
}

func TestCopyIsItsOwn(t *testing.T) { // P15.2: what each call does in one is not seen in the other, both ways
	for _, call := range []func(l *lock.Locks){
		func(l *lock.Locks) { l.Enter(-1, 2) },
		func(l *lock.Locks) { l.Enter(3, 2) },
		func(l *lock.Locks) { l.Exit(-1, 2) },
		func(l *lock.Locks) { l.Wait(-1, 2) },
		func(l *lock.Locks) { l.Wait(5, 3) },
		func(l *lock.Locks) { l.Enter(0, 1); l.Wait(0, 1) },
		func(l *lock.Locks) { l.Tell(5, 3, false) },
		func(l *lock.Locks) { l.Tell(5, 3, true) },
		func(l *lock.Locks) { l.Exit(5, 3); l.Exit(5, 3); l.Back(5, 1) },
		func(l *lock.Locks) { l.Exit(5, 3); l.Exit(5, 3); l.Back(5, 1); l.Wait(5, 1) },
		func(l *lock.Locks) { l.Tell(5, 3, true); l.Exit(5, 3); l.Exit(5, 3); l.Back(5, 5) },
		func(l *lock.Locks) { l.Tell(5, 3, true); l.Exit(5, 3); l.Exit(5, 3); l.Back(5, 5); l.Wait(5, 5) },
	} {
		l := some(t)
		c := copyOf(t, l)
		before := look(l)
		call(c)
		if look(l) != before {
			t.Errorf("now:\n%swas:\n%s", look(l), before)
		}
		after := look(c)
		if after == before {
			t.Errorf("nothing changes:\n%s", after)
		}
		d := copyOf(t, c)
		call(l)
		if look(l) != after || look(c) != after || look(d) != after {
			t.Errorf("now:\n%s%s%swant:\n%s", look(l), look(c), look(d), after)
		}
	}
}

func TestCopyGrowsAlone(t *testing.T) { // P15.2, P4: rows and counts that grow in one are not seen in the other, whatever room there was left
	for there := range 12 {
		l := newLocks(t)
		var want, other []int
		for i := range there {
			comes(t, l, 5, 1, i+1)
			want = append(want, 1)
		}
		other = append(other, want...)
		c := copyOf(t, l)
		for i := range 6 {
			comes(t, l, 5, 1, 100+i)
			want = append(want, 1)
			row(t, c, 5, other...)
			comes(t, c, 5, 1, 200+i)
			comes(t, c, 5, 2, 1)
			other = append(other, 1, 2)
			row(t, l, 5, want...)
			row(t, c, 5, other...)
		}
		for at, x := range []*lock.Locks{l, c} {
			calls(t, x, 5, 9, true, [][]int{want, other}[at]...)
			for i := range there {
				backs(t, x, 5, 1, i+1)
				exits(t, x, 5, 1, i+1)
			}
			for i := range 6 {
				backs(t, x, 5, 1, 100+100*at+i)
				exits(t, x, 5, 1, 100+100*at+i)
			}
			refusesBack(t, x, 5, 1)
		}
	}
}
