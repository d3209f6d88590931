package lock_test

import (
	"math"
	"math/rand"
	"slices"
	"testing"

	"understudy/api"
	"understudy/lock"
)

// hold is that a thread is in a monitor, once.
type hold struct{ r, t int }

// stay is that a thread has a count that is kept at a monitor.
type stay struct {
	r, t, times int
	told        bool
}

// plain is two lists that do what monitors are to do.
type plain struct {
	holds []hold // a row for each time
	stays []stay // in the order in which they came
}

// owner answers whose r is, and how many times over.
func (p *plain) owner(r int) (int, int) {
	who, n := -1, 0
	for _, h := range p.holds {
		if h.r == r {
			who, n = h.t, n+1
		}
	}
	return who, n
}

// isOwner tells whether r is t's.
func (p *plain) isOwner(r, t int) bool { return slices.Contains(p.holds, hold{r, t}) }

// free does what Free is to do.
func (p *plain) free(r, t int) bool {
	return !slices.ContainsFunc(p.holds, func(h hold) bool { return h.r == r && h.t != t })
}

// enter does what Enter is to do.
func (p *plain) enter(r, t int) (bool, api.Errno) {
	if !p.free(r, t) {
		return false, api.OK
	}
	p.holds = append(p.holds, hold{r, t})
	return true, api.OK
}

// exit does what Exit is to do.
func (p *plain) exit(r, t int) api.Errno {
	at := slices.Index(p.holds, hold{r, t})
	if at < 0 {
		return api.ErrOwner
	}
	p.holds = slices.Delete(p.holds, at, at+1)
	return api.OK
}

// wait does what Wait is to do.
func (p *plain) wait(r, t int) api.Errno {
	if !p.isOwner(r, t) {
		return api.ErrOwner
	}
	_, n := p.owner(r)
	p.holds = slices.DeleteFunc(p.holds, func(h hold) bool { return h.r == r })
	p.stays = append(p.stays, stay{r: r, t: t, times: n})
	return api.OK
}

// tell does what Tell is to do.
func (p *plain) tell(r, t int, all bool) (told []int, e api.Errno) {
	if !p.isOwner(r, t) {
		return nil, api.ErrOwner
	}
	for i, s := range p.stays {
		if s.r == r && !s.told && (all || len(told) == 0) {
			told = append(told, s.t)
			p.stays[i].told = true
		}
	}
	return told, api.OK
}

// back does what Back is to do.
func (p *plain) back(r, t int) (bool, api.Errno) {
	at, waits := -1, false
	for i, s := range p.stays {
		if s.r == r && s.t == t {
			waits = waits || !s.told
			if at < 0 {
				at = i
			}
		}
	}
	if _, n := p.owner(r); at < 0 || waits || n > 0 {
		return false, api.OK
	}
	for range p.stays[at].times {
		p.holds = append(p.holds, hold{r, t})
	}
	p.stays = slices.Delete(p.stays, at, at+1)
	return true, api.OK
}

// waits does what Waits is to do.
func (p *plain) waits(r int) (row []int) {
	for _, s := range p.stays {
		if s.r == r && !s.told {
			row = append(row, s.t)
		}
	}
	return row
}

// copy answers the same in lists of their own.
func (p *plain) copy() *plain {
	return &plain{slices.Clone(p.holds), slices.Clone(p.stays)}
}

// both are monitors, and the lists that they are held against.
type both struct {
	l *lock.Locks
	p *plain
}

// copy answers a copy of both.
func (x both) copy() both { return both{x.l.Copy(), x.p.copy()} }

// does does one of six calls in both, and holds the answers against each other.
func (x both) does(t *testing.T, call, r, who int) {
	t.Helper()
	var ok, want bool
	var told, wanted []int
	var e, f api.Errno
	switch call {
	case 0:
		ok, e = x.l.Enter(r, who)
		want, f = x.p.enter(r, who)
	case 1:
		e, f = x.l.Exit(r, who), x.p.exit(r, who)
	case 2:
		e, f = x.l.Wait(r, who), x.p.wait(r, who)
	case 3, 4:
		told, e = x.l.Tell(r, who, call == 4)
		wanted, f = x.p.tell(r, who, call == 4)
	default:
		ok, e = x.l.Back(r, who)
		want, f = x.p.back(r, who)
	}
	if ok != want || !slices.Equal(told, wanted) || e != f {
		t.Fatalf("call %d of %d, %d: %t, %v, %d; want %t, %v, %d", call, r, who, ok, told, e, want, wanted, f)
	}
}

// stands holds all that is told of r against each other, and asks that never two own it.
func (x both) stands(t *testing.T, r int, threads []int) {
	t.Helper()
	who, n := x.l.Owner(r)
	if wanted, m := x.p.owner(r); who != wanted || n != m {
		t.Fatalf("Owner(%d): %d, %d; want %d, %d", r, who, n, wanted, m)
	}
	if w, want := x.l.Waits(r), x.p.waits(r); !slices.Equal(w, want) {
		t.Fatalf("Waits(%d): %v; want %v", r, w, want)
	}
	may := 0
	for _, y := range threads {
		if x.l.Free(r, y) != x.p.free(r, y) {
			t.Fatalf("Free(%d, %d): %t", r, y, x.l.Free(r, y))
		}
		if x.l.Free(r, y) {
			may++
		}
	}
	if n > 0 && may != 1 || n == 0 && may != len(threads) {
		t.Fatalf("%d threads may own %d, of which %d is the owner %d times over", may, r, who, n)
	}
}

func TestAllScripts(t *testing.T) { // P15.1, P15.2, P15.4: all scripts of few calls, of two threads at one monitor, and of one at two
	var plays func(x both, objects, threads []int, left int)
	plays = func(x both, objects, threads []int, left int) {
		for _, r := range objects {
			x.stands(t, r, threads)
		}
		if left == 0 {
			return
		}
		for _, r := range objects {
			for _, who := range threads {
				for call := range 6 {
					c := x.copy()
					c.does(t, call, r, who)
					plays(c, objects, threads, left-1)
				}
			}
		}
	}
	plays(both{newLocks(t), &plain{}}, []int{0}, []int{0, -1}, 5)
	plays(both{newLocks(t), &plain{}}, []int{0, -1}, []int{-1}, 4)
	plays(both{newLocks(t), &plain{}}, []int{5, 1<<32 + 5}, []int{1, 2}, 3)
}

// chance does a script by chance, and answers the monitors that were in it.
func chance(t *testing.T, seed int64, steps int) []both {
	t.Helper()
	c := rand.New(rand.NewSource(seed))
	objects := []int{5, 0, -1, math.MinInt, math.MaxInt, 1<<32 + 5}[:1+c.Intn(6)]
	threads := []int{0, 1, -1, math.MinInt, math.MaxInt, 1<<32 + 1, 7}[:1+c.Intn(7)]
	l := []both{{newLocks(t), &plain{}}}
	for range steps {
		x := l[c.Intn(len(l))]
		r, who, call := objects[c.Intn(len(objects))], threads[c.Intn(len(threads))], c.Intn(6)
		if owner, n := x.p.owner(r); n > 0 && c.Intn(4) > 0 {
			who = owner
		}
		x.does(t, call, r, who)
		x.stands(t, r, threads)
		if c.Intn(100) == 0 && len(l) < 4 {
			l = append(l, x.copy())
		}
		if c.Intn(100) == 0 { // an answer is the asker's own
			w := x.l.Waits(r)
			for i := range w {
				w[i] = 99
			}
		}
		if c.Intn(50) == 0 {
			for _, x := range l {
				for _, r := range objects {
					x.stands(t, r, threads)
				}
			}
		}
	}
	return l
}

func TestByChance(t *testing.T) { // P15.1, P15.2, P15.4: scripts by chance, with copies among them, held against plain lists
	for seed := range int64(400) {
		chance(t, seed, 1000)
	}
}

func TestPlayedAgain(t *testing.T) { // P5: the same calls have the same answers
	for seed := range int64(20) {
		a, b := chance(t, 1000+seed, 500), chance(t, 1000+seed, 500)
		for k := range a {
			if look(a[k].l) != look(b[k].l) {
				t.Errorf("now:\n%swas:\n%s", look(b[k].l), look(a[k].l))
			}
		}
	}
}

func TestAskedAgain(t *testing.T) { // P5: asking changes nothing
	for seed := range int64(20) {
		for _, x := range chance(t, 2000+seed, 300) {
			keeps(t, x.l, func() {
				for _, r := range edges() {
					x.l.Owner(r)
					x.l.Waits(r)
					x.l.Free(r, r)
					x.l.Copy()
				}
			})
		}
	}
}
