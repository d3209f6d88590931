package lock

import (
	"math/rand"
	"testing"
)

// asIf does all that a thread can do which owns nothing there, but for entering.
func asIf(l *Locks, r, t int) {
	l.Exit(r, t)
	l.Wait(r, t)
	l.Tell(r, t, true)
	l.Back(r, t)
	l.Owner(r)
	l.Waits(r)
	l.Free(r, t)
}

func TestKeepsNoMore(t *testing.T) { // a monitor that is free, where nobody waits and nobody is to come back, is kept no more
	l := New()
	for r := range 100 {
		asIf(l, r, 1)
		if len(l.monitors) != 0 {
			t.Fatalf("%d monitors are kept; nothing was done", len(l.monitors))
		}
		l.Enter(r, 1)
		l.Enter(r, 1)
		asIf(l, r, 2)
		l.Exit(r, 1)
		if len(l.monitors) != 1 {
			t.Fatalf("%d monitors are kept; one is owned", len(l.monitors))
		}
		l.Wait(r, 1)
		if len(l.monitors) != 1 {
			t.Fatalf("%d monitors are kept; at one waits a thread", len(l.monitors))
		}
		l.Enter(r, 2)
		l.Tell(r, 2, false)
		l.Exit(r, 2)
		if len(l.monitors) != 1 {
			t.Fatalf("%d monitors are kept; to one a thread is to come back", len(l.monitors))
		}
		l.Back(r, 1)
		if m := l.monitors[r]; len(m.kept) != 0 || len(m.row) != 0 {
			t.Fatalf("counts of %d threads and %d that wait are kept; there are none", len(m.kept), len(m.row))
		}
		l.Exit(r, 1)
		if c := l.Copy(); len(l.monitors) != 0 || len(c.monitors) != 0 {
			t.Fatalf("%d monitors are kept, %d in a copy; all are free", len(l.monitors), len(c.monitors))
		}
	}
}

func TestRowHasCounts(t *testing.T) { // what the end of a monitor leans on: of each thread in the row a count is kept
	for seed := range int64(100) {
		c, l := rand.New(rand.NewSource(seed)), New()
		for range 500 {
			who := c.Intn(4)
			if x, n := l.Owner(5); n > 0 && c.Intn(4) > 0 {
				who = x
			}
			switch c.Intn(5) {
			case 0:
				l.Enter(5, who)
			case 1:
				l.Exit(5, who)
			case 2:
				l.Wait(5, who)
			case 3:
				l.Tell(5, who, c.Intn(3) == 0)
			case 4:
				l.Back(5, who)
			}
			m := l.monitors[5]
			for _, x := range m.row {
				if len(m.kept[x]) == 0 {
					t.Fatalf("%d waits, and no count of it is kept", x)
				}
			}
			for x, counts := range m.kept {
				if len(counts) == 0 {
					t.Fatalf("an empty list of counts of %d is kept", x)
				}
			}
		}
	}
}
