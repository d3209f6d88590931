package lock_test

import (
	"math"
	"slices"
	"testing"
)

func TestExample(t *testing.T) { // the chapter's
	l := newLocks(t)
	enters(t, l, 5, 1, 2)
	waits(t, l, 5, 1)
	enters(t, l, 5, 2, 1)
	tells(t, l, 5, 2, false, 1)
	refusesBack(t, l, 5, 1)
	exits(t, l, 5, 2, 1)
	backs(t, l, 5, 1, 2)
}

func TestWait(t *testing.T) { // P15.2: it is free, whoever owned it, and however many times over
	for _, r := range []int{5, 0, -1, math.MinInt, math.MaxInt} {
		for _, who := range edges() {
			for _, times := range []int{1, 2, 9} {
				l := newLocks(t)
				comes(t, l, r, who, times)
				isFree(t, l, r)
				row(t, l, r, who)
				refusesOwner(t, l, r, who)
				refusesBack(t, l, r, who)
				enters(t, l, r, 4, 1)
				tells(t, l, r, 4, false, who)
				row(t, l, r)
				exits(t, l, r, 4, 1)
				backs(t, l, r, who, times)
				exits(t, l, r, who, times)
				isFree(t, l, r)
			}
		}
	}
}

func TestWaitInOrder(t *testing.T) { // P15.2: at the end of the row
	l := newLocks(t)
	var want []int
	for i, who := range []int{3, -1, 7, 0, math.MaxInt, 1, math.MinInt} {
		comes(t, l, 5, who, i+1)
		want = append(want, who)
		row(t, l, 5, want...)
	}
	row(t, l, 6)
	enters(t, l, 5, 9, 1)
	for i, who := range want {
		tells(t, l, 5, 9, false, who)
		row(t, l, 5, want[i+1:]...)
	}
	tells(t, l, 5, 9, false)
	tells(t, l, 5, 9, true)
	exits(t, l, 5, 9, 1)
	for i := len(want) - 1; i >= 0; i-- { // and back in any order
		backs(t, l, 5, want[i], i+1)
		exits(t, l, 5, want[i], i+1)
	}
}

func TestTellAll(t *testing.T) { // P15.2: all of them, in order; it stays the teller's
	for waiting := range 20 {
		for first := range waiting + 1 { // so many of them are told one by one ahead
			l := newLocks(t)
			var want []int
			for i := range waiting {
				comes(t, l, 5, 100-3*i, 1+i%4)
				want = append(want, 100-3*i)
			}
			enters(t, l, 5, 7, 3)
			for i := range first {
				tells(t, l, 5, 7, false, want[i])
			}
			tells(t, l, 5, 7, true, want[first:]...)
			row(t, l, 5)
			tells(t, l, 5, 7, true)
			tells(t, l, 5, 7, false)
			owns(t, l, 5, 7, 3)
			exits(t, l, 5, 7, 3)
			for i := range waiting {
				backs(t, l, 5, want[i], 1+i%4)
				exits(t, l, 5, want[i], 1+i%4)
			}
		}
	}
}

func TestTellOfAnother(t *testing.T) { // P15.2, P2: ErrOwner, and who waits waits on
	l := newLocks(t)
	comes(t, l, 5, 1, 2)
	comes(t, l, 5, 2, 1)
	for _, who := range []int{1, 2, 3, -1, 0} { // it is free
		refusesOwner(t, l, 5, who)
	}
	enters(t, l, 5, 3, 1)
	for _, who := range []int{1, 2, -1, 0, 4} {
		refusesOwner(t, l, 5, who)
	}
	row(t, l, 5, 1, 2)
	enters(t, l, 6, 1, 1) // who owns another one
	refusesOwner(t, l, 5, 1)
	tells(t, l, 6, 1, true)
	row(t, l, 5, 1, 2)
}

func TestTellerAlone(t *testing.T) { // P15.2: also by one that waits itself
	l := newLocks(t)
	comes(t, l, 5, 1, 2)
	enters(t, l, 5, 1, 3)
	tells(t, l, 5, 1, false, 1)
	row(t, l, 5)
	refusesBack(t, l, 5, 1)
	owns(t, l, 5, 1, 3)
	exits(t, l, 5, 1, 3)
	backs(t, l, 5, 1, 2)
}

func TestBackWhileItIsOwned(t *testing.T) { // P15.2: false, whoever owns it, itself too
	l := newLocks(t)
	comes(t, l, 5, 1, 2)
	enters(t, l, 5, 2, 2)
	tells(t, l, 5, 2, true, 1)
	refusesBack(t, l, 5, 1)
	exits(t, l, 5, 2, 1)
	refusesBack(t, l, 5, 1)
	exits(t, l, 5, 2, 1)
	enters(t, l, 5, 1, 1)
	refusesBack(t, l, 5, 1)
	owns(t, l, 5, 1, 1)
	exits(t, l, 5, 1, 1)
	backs(t, l, 5, 1, 2)
}

func TestBackOnce(t *testing.T) { // P15.2: the count is kept no more
	l := newLocks(t)
	comes(t, l, 5, 1, 2)
	calls(t, l, 5, 2, true, 1)
	backs(t, l, 5, 1, 2)
	refusesBack(t, l, 5, 1)
	exits(t, l, 5, 1, 2)
	isFree(t, l, 5)
	refusesBack(t, l, 5, 1)
	comes(t, l, 5, 1, 7) // and kept anew
	refusesBack(t, l, 5, 1)
	calls(t, l, 5, 2, false, 1)
	backs(t, l, 5, 1, 7)
}

func TestBackOfNone(t *testing.T) { // P15.2: false of a thread that has no count, and of one that has it at another
	l := newLocks(t)
	comes(t, l, 5, 1, 2)
	calls(t, l, 5, 2, true, 1)
	for _, x := range edges() {
		if x != 1 {
			refusesBack(t, l, 5, x)
		}
		if x != 5 {
			refusesBack(t, l, x, 1)
			refusesBack(t, l, x, 5)
		}
	}
	isFree(t, l, 5)
	backs(t, l, 5, 1, 2)
}

func TestToldStays(t *testing.T) { // the chapter's words: a thread that was told has its count until it comes back, whatever others do
	l := newLocks(t)
	comes(t, l, 5, 1, 4)
	enters(t, l, 5, 2, 1)
	tells(t, l, 5, 2, false, 1)
	waits(t, l, 5, 2)
	comes(t, l, 5, 3, 2)
	row(t, l, 5, 2, 3)
	calls(t, l, 5, 4, true, 2, 3)
	backs(t, l, 5, 3, 2)
	waits(t, l, 5, 3)
	refusesBack(t, l, 5, 3)
	backs(t, l, 5, 1, 4)
	tells(t, l, 5, 1, true, 3)
	exits(t, l, 5, 1, 4)
	backs(t, l, 5, 2, 1)
	exits(t, l, 5, 2, 1)
	backs(t, l, 5, 3, 2)
}

func TestWaitsTwice(t *testing.T) { // P15.2: a further count; while it waits somewhere in the row it can't be back; then the earliest first
	l := newLocks(t)
	comes(t, l, 5, 1, 3)
	comes(t, l, 5, 2, 1)
	comes(t, l, 5, 1, 5)
	row(t, l, 5, 1, 2, 1)
	calls(t, l, 5, 7, false, 1)
	row(t, l, 5, 2, 1)
	refusesBack(t, l, 5, 1)
	refusesBack(t, l, 5, 2)
	calls(t, l, 5, 7, false, 2)
	refusesBack(t, l, 5, 1)
	backs(t, l, 5, 2, 1)
	tells(t, l, 5, 2, true, 1)
	exits(t, l, 5, 2, 1)
	row(t, l, 5)
	backs(t, l, 5, 1, 3)
	refusesBack(t, l, 5, 1)
	exits(t, l, 5, 1, 3)
	backs(t, l, 5, 1, 5)
	exits(t, l, 5, 1, 5)
	refusesBack(t, l, 5, 1)
}

func TestWaitsOnceMore(t *testing.T) { // P15.2: likewise, if it was told of the first and waits anew ahead of coming back
	l := newLocks(t)
	comes(t, l, 5, 1, 3)
	enters(t, l, 5, 1, 2)
	tells(t, l, 5, 1, true, 1)
	waits(t, l, 5, 1)
	row(t, l, 5, 1)
	refusesBack(t, l, 5, 1)
	calls(t, l, 5, 2, true, 1)
	backs(t, l, 5, 1, 3)
	waits(t, l, 5, 1) // the earliest is now the one of 2
	calls(t, l, 5, 2, true, 1)
	backs(t, l, 5, 1, 2)
	exits(t, l, 5, 1, 2)
	backs(t, l, 5, 1, 3)
	exits(t, l, 5, 1, 3)
	refusesBack(t, l, 5, 1)
}

func TestWaitsAtEach(t *testing.T) { // P15.2: a thread may wait at many, with a count at each
	l := newLocks(t)
	for i, r := range edges() {
		comes(t, l, r, 1, i+1)
	}
	for i, r := range edges() {
		row(t, l, r, 1)
		calls(t, l, r, 2, true, 1)
		row(t, l, r)
		backs(t, l, r, 1, i+1)
	}
}

func TestManyWait(t *testing.T) { // P15.2: however many wait, at one; some more times than once
	l, many := newLocks(t), 5000
	var want []int
	for i := range many {
		comes(t, l, 0, i%4000, 1+i%3)
		want = append(want, i%4000)
	}
	row(t, l, 0, want...)
	enters(t, l, 0, -7, 1)
	for i := range 100 {
		tells(t, l, 0, -7, false, i)
	}
	row(t, l, 0, want[100:]...)
	tells(t, l, 0, -7, true, want[100:]...)
	row(t, l, 0)
	exits(t, l, 0, -7, 1)
	for i, who := range want {
		if ok, e := l.Back(0, who); !ok || e != 0 {
			t.Fatalf("Back(0, %d): %t, %d", who, ok, e)
		}
		if x, n := l.Owner(0); x != who || n != 1+i%3 {
			t.Fatalf("Owner: %d, %d; want %d, %d", x, n, who, 1+i%3)
		}
		exits(t, l, 0, who, 1+i%3)
	}
	refusesBack(t, l, 0, 0)
}

func TestAnswersAreNew(t *testing.T) { // P4: what is changed in an answer, or laid behind it, is not seen in the monitors or in another answer
	l := newLocks(t)
	var want []int
	for i := range 10 {
		comes(t, l, 5, i, 1)
		want = append(want, i)
		a, b := l.Waits(5), l.Waits(5)
		_ = append(a, 77, 78)
		for k := range a {
			a[k] = -9
		}
		if !slices.Equal(b, want) {
			t.Errorf("%v; want %v", b, want)
		}
		row(t, l, 5, want...)
	}
	w := l.Waits(5)
	enters(t, l, 5, 20, 1)
	for i := range 4 {
		one, _ := l.Tell(5, 20, false)
		one = append(one, 79, 80)
		one[0] = -9
		row(t, l, 5, want[i+1:]...)
	}
	keeps(t, l, func() { l.Waits(5)[0] = 6 })
	rest, e := l.Tell(5, 20, true)
	if !slices.Equal(rest, want[4:]) || e != 0 {
		t.Errorf("Tell: %v, %d; want %v", rest, e, want[4:])
	}
	for k := range rest {
		rest[k] = -9
	}
	waits(t, l, 5, 20)
	_ = append(rest[:0], 1, 2, 3)
	row(t, l, 5, 20)
	if !slices.Equal(w, want) {
		t.Errorf("%v; want %v", w, want)
	}
	for i := range want {
		backs(t, l, 5, i, 1)
		exits(t, l, 5, i, 1)
	}
}
