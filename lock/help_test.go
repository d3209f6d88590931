package lock_test

import (
	"fmt"
	"math"
	"slices"
	"testing"

	"understudy/api"
	"understudy/lock"
)

// edges are numbers that objects and threads may have: around 0, the least and the greatest, and such that look alike if they are cut.
func edges() []int {
	l := []int{0, 1, 2, 3, 5, -1, -2, -5, math.MinInt, math.MinInt + 1, math.MaxInt, math.MaxInt - 1}
	for _, n := range []int{8, 16, 31, 32, 33, 62} {
		l = append(l, 1<<n, -1<<n, 1<<n+5, -1<<n+5, 1<<n-1)
	}
	return l
}

// newLocks makes monitors that must be made.
func newLocks(t *testing.T) *lock.Locks {
	t.Helper()
	l := lock.New()
	if l == nil {
		t.Fatal("New: nil")
	}
	return l
}

// enters asks that the thread who enters r so many times.
func enters(t *testing.T, l *lock.Locks, r, who, times int) {
	t.Helper()
	for range times {
		if ok, e := l.Enter(r, who); !ok || e != api.OK {
			t.Errorf("Enter(%d, %d): %t, %d", r, who, ok, e)
		}
	}
}

// exits asks that the thread who exits r so many times.
func exits(t *testing.T, l *lock.Locks, r, who, times int) {
	t.Helper()
	for range times {
		if e := l.Exit(r, who); e != api.OK {
			t.Errorf("Exit(%d, %d): %d", r, who, e)
		}
	}
}

// waits asks that the thread who waits at r.
func waits(t *testing.T, l *lock.Locks, r, who int) {
	t.Helper()
	if e := l.Wait(r, who); e != api.OK {
		t.Errorf("Wait(%d, %d): %d", r, who, e)
	}
}

// comes lets the thread who enter r so many times, and wait there.
func comes(t *testing.T, l *lock.Locks, r, who, times int) {
	t.Helper()
	enters(t, l, r, who, times)
	waits(t, l, r, who)
}

// tells asks that the thread who tells just those at r.
func tells(t *testing.T, l *lock.Locks, r, who int, all bool, want ...int) {
	t.Helper()
	if told, e := l.Tell(r, who, all); !slices.Equal(told, want) || e != api.OK {
		t.Errorf("Tell(%d, %d, %t): %v, %d; want %v", r, who, all, told, e, want)
	}
}

// calls lets the thread who enter r, tell just those there, and exit.
func calls(t *testing.T, l *lock.Locks, r, who int, all bool, want ...int) {
	t.Helper()
	enters(t, l, r, who, 1)
	tells(t, l, r, who, all, want...)
	exits(t, l, r, who, 1)
}

// backs asks that the thread who is back at r, so many times over.
func backs(t *testing.T, l *lock.Locks, r, who, times int) {
	t.Helper()
	if ok, e := l.Back(r, who); !ok || e != api.OK {
		t.Errorf("Back(%d, %d): %t, %d", r, who, ok, e)
	}
	owns(t, l, r, who, times)
}

// owns asks that r is the thread who's, so many times over, and nobody else's.
func owns(t *testing.T, l *lock.Locks, r, who, times int) {
	t.Helper()
	if x, n := l.Owner(r); x != who || n != times {
		t.Errorf("Owner(%d): %d, %d; want %d, %d", r, x, n, who, times)
	}
	for _, x := range append(edges(), who) {
		if l.Free(r, x) != (x == who) {
			t.Errorf("Free(%d, %d): %t; it is %d's", r, x, l.Free(r, x), who)
		}
	}
}

// isFree asks that r is free for all.
func isFree(t *testing.T, l *lock.Locks, r int) {
	t.Helper()
	if x, n := l.Owner(r); x != -1 || n != 0 {
		t.Errorf("Owner(%d): %d, %d; want -1, 0", r, x, n)
	}
	for _, x := range edges() {
		if !l.Free(r, x) {
			t.Errorf("Free(%d, %d): false; it is free", r, x)
		}
	}
}

// row asks that just those wait at r, in that order.
func row(t *testing.T, l *lock.Locks, r int, want ...int) {
	t.Helper()
	if w := l.Waits(r); !slices.Equal(w, want) {
		t.Errorf("Waits(%d): %v; want %v", r, w, want)
	}
}

// keeps asks that what a call does changes nothing.
func keeps(t *testing.T, l *lock.Locks, call func()) {
	t.Helper()
	before := look(l)
	call()
	if after := look(l); after != before {
		t.Errorf("now:\n%swas:\n%s", after, before)
	}
}

// refusesEnter asks that the thread who may not enter r, and that nothing changes.
func refusesEnter(t *testing.T, l *lock.Locks, r, who int) {
	t.Helper()
	keeps(t, l, func() {
		if ok, e := l.Enter(r, who); ok || e != api.OK {
			t.Errorf("Enter(%d, %d): %t, %d; want false, 0", r, who, ok, e)
		}
	})
}

// refusesBack asks that the thread who may not come back to r, and that nothing changes.
func refusesBack(t *testing.T, l *lock.Locks, r, who int) {
	t.Helper()
	keeps(t, l, func() {
		if ok, e := l.Back(r, who); ok || e != api.OK {
			t.Errorf("Back(%d, %d): %t, %d; want false, 0", r, who, ok, e)
		}
	})
}

// refusesOwner asks that whatever an owner alone may do at r errs for the thread who, and that nothing changes.
func refusesOwner(t *testing.T, l *lock.Locks, r, who int) {
	t.Helper()
	keeps(t, l, func() {
		if e := l.Exit(r, who); e != api.ErrOwner {
			t.Errorf("Exit(%d, %d): %d; want %d", r, who, e, api.ErrOwner)
		}
		if e := l.Wait(r, who); e != api.ErrOwner {
			t.Errorf("Wait(%d, %d): %d; want %d", r, who, e, api.ErrOwner)
		}
		for _, all := range []bool{false, true} {
			if told, e := l.Tell(r, who, all); len(told) != 0 || e != api.ErrOwner {
				t.Errorf("Tell(%d, %d, %t): %v, %d; want %d", r, who, all, told, e, api.ErrOwner)
			}
		}
	})
}

// look answers all that can be told of the monitors at the edges, also which counts are kept there, in order.
func look(l *lock.Locks) string {
	s := ""
	for _, r := range edges() {
		who, n := l.Owner(r)
		s += fmt.Sprintln(r, who, n, l.Waits(r), counts(l, r))
	}
	return s
}

// counts answers the counts that are kept at r, of the threads at the edges, each thread with those of its own in order. They are taken from a copy in which nobody waits and nobody owns.
func counts(l *lock.Locks, r int) (kept [][2]int) {
	c := l.Copy()
	who, n := c.Owner(r)
	for range n {
		c.Exit(r, who)
	}
	c.Enter(r, 99)
	c.Tell(r, 99, true)
	c.Exit(r, 99)
	for _, x := range edges() {
		for {
			if ok, _ := c.Back(r, x); !ok {
				break
			}
			_, n := c.Owner(r)
			kept = append(kept, [2]int{x, n})
			for range n {
				c.Exit(r, x)
			}
		}
	}
	return kept
}
