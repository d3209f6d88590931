package lock_test

import (
	"math"
	"testing"

	"understudy/api"
)

func TestNew(t *testing.T) { // P15.1, P15.2: all are free, nobody waits, nobody has a count
	l := newLocks(t)
	for _, r := range edges() {
		isFree(t, l, r)
		row(t, l, r)
		for _, who := range edges() {
			if e := l.Exit(r, who); e != api.ErrOwner {
				t.Errorf("Exit(%d, %d): %d", r, who, e)
			}
			if ok, e := l.Back(r, who); ok || e != api.OK {
				t.Errorf("Back(%d, %d): %t, %d", r, who, ok, e)
			}
		}
		isFree(t, l, r)
	}
}

func TestEnter(t *testing.T) { // P15.1: whoever enters a free one owns it, whatever its number
	for _, who := range edges() {
		l := newLocks(t)
		enters(t, l, 5, who, 1)
		owns(t, l, 5, who, 1)
		enters(t, l, 5, who, 1)
		owns(t, l, 5, who, 2)
		enters(t, l, 5, who, 5)
		owns(t, l, 5, who, 7)
	}
}

func TestEnterOfAnother(t *testing.T) { // P15.1: false, and it stays its owner's
	for _, who := range []int{0, 1, -1, 5, math.MinInt, math.MaxInt} {
		l := newLocks(t)
		enters(t, l, 5, who, 2)
		for _, x := range edges() {
			if x == who {
				continue
			}
			refusesEnter(t, l, 5, x)
			refusesOwner(t, l, 5, x)
			refusesBack(t, l, 5, x)
		}
		owns(t, l, 5, who, 2)
	}
}

func TestExit(t *testing.T) { // P15.1: as often as it was entered; then it is free
	for _, times := range []int{1, 2, 3, 10, 1000} {
		for _, who := range []int{0, 1, -1, math.MinInt} {
			l := newLocks(t)
			enters(t, l, 5, who, times)
			for left := times - 1; left > 0; left-- {
				exits(t, l, 5, who, 1)
				if x, n := l.Owner(5); x != who || n != left {
					t.Fatalf("Owner: %d, %d; want %d, %d", x, n, who, left)
				}
			}
			owns(t, l, 5, who, 1)
			exits(t, l, 5, who, 1)
			isFree(t, l, 5)
			refusesOwner(t, l, 5, who)
			enters(t, l, 5, 7, 1)
			owns(t, l, 5, 7, 1)
			refusesOwner(t, l, 5, who)
		}
	}
}

func TestExitOfNone(t *testing.T) { // P15.1: a free one is not anybody's, not even of the thread that Owner names then
	l := newLocks(t)
	for _, r := range []int{5, 0, -1, math.MinInt, math.MaxInt} {
		for _, who := range []int{-1, 0, 1, 5, math.MinInt, math.MaxInt} {
			refusesOwner(t, l, r, who)
			enters(t, l, r, who, 1)
			exits(t, l, r, who, 1)
			refusesOwner(t, l, r, who)
		}
	}
}

func TestThreadMinusOne(t *testing.T) { // P15.1: Owner's -1 is a thread, if it is told with a count
	l := newLocks(t)
	enters(t, l, 5, -1, 1)
	owns(t, l, 5, -1, 1)
	refusesEnter(t, l, 5, 0)
	exits(t, l, 5, -1, 1)
	isFree(t, l, 5)
}

func TestMonitorOfEachNumber(t *testing.T) { // the chapter's words: of 0 and below too, each one of its own
	l := newLocks(t)
	for i, r := range edges() {
		for _, s := range edges()[i:] {
			if _, n := l.Owner(s); n != 0 {
				t.Errorf("Owner(%d): %d times", s, n)
			}
		}
		enters(t, l, r, i, i+1)
	}
	for i, r := range edges() {
		owns(t, l, r, i, i+1)
		exits(t, l, r, i, i+1)
		isFree(t, l, r)
		for j, s := range edges()[i+1:] {
			if who, n := l.Owner(s); who != i+1+j || n != i+2+j {
				t.Errorf("Owner(%d): %d, %d", s, who, n)
			}
		}
	}
}

func TestManyMonitors(t *testing.T) { // P15.1, P15.2: each one stands for itself, however many there are
	l, many := newLocks(t), 20000
	for r := range many {
		enters(t, l, r-many/2, r%7, 1+r%3)
		if r%5 == 0 {
			waits(t, l, r-many/2, r%7)
		}
	}
	for r := range many {
		who, n := l.Owner(r - many/2)
		if r%5 == 0 {
			if who != -1 || n != 0 {
				t.Fatalf("Owner: %d, %d", who, n)
			}
			row(t, l, r-many/2, r%7)
			continue
		}
		if who != r%7 || n != 1+r%3 {
			t.Fatalf("Owner: %d, %d; want %d, %d", who, n, r%7, 1+r%3)
		}
		row(t, l, r-many/2)
	}
}
