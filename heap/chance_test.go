package heap_test

import (
	"math/rand"
	"testing"

	"understudy/api"
	"understudy/heap"
)

// plain is a list of objects that does what a heap is to do.
type plain struct {
	most int
	l    []api.Object
}

// make does what Make is to do.
func (p *plain) make(x api.Type, data []api.Type) (int, api.Errno) {
	if len(data) > 1024 {
		return 0, api.ErrArg
	}
	return p.add(x, firstsOf(data))
}

// array does what Array is to do.
func (p *plain) array(x, of api.Type, n int) (int, api.Errno) {
	if n < 0 {
		return 0, api.ErrArg
	}
	if n > 1024 {
		return 0, api.ErrMemory
	}
	var data []api.Value
	for range n {
		data = append(data, firstByHand(of))
	}
	return p.add(x, data)
}

// add lays a new object behind the others.
func (p *plain) add(x api.Type, data []api.Value) (int, api.Errno) {
	if len(p.l) == p.most {
		return 0, api.ErrMemory
	}
	p.l = append(p.l, api.Object{T: x, Data: data})
	return len(p.l), api.OK
}

// get does what Get is to do.
func (p *plain) get(r, i int) (api.Value, api.Errno) {
	if r < 1 || r > len(p.l) {
		return api.Value{}, api.ErrNone
	}
	if i < 0 || i >= len(p.l[r-1].Data) {
		return api.Value{}, api.ErrArg
	}
	return p.l[r-1].Data[i], api.OK
}

// set does what Set is to do.
func (p *plain) set(r, i int, v api.Value) api.Errno {
	old, e := p.get(r, i)
	if e != api.OK {
		return e
	}
	if old.K != v.K {
		return api.ErrArg
	}
	p.l[r-1].Data[i] = v
	return api.OK
}

// pair is a heap, and the list that it is held against.
type pair struct {
	h *heap.Heap
	p *plain
}

// byChance answers a type, a value, a length, as they come.
type byChance struct{ *rand.Rand }

func (c byChance) typeOf() api.Type {
	x := api.Type{K: c.Intn(9)}
	if c.Intn(20) == 0 {
		x.K = c.Intn(1000) - 500
	}
	if c.Intn(2) == 0 {
		x.Name, x.Dims, x.Elem, x.At = string(rune('A'+c.Intn(26))), c.Intn(5), c.Intn(5), c.Intn(100)
	}
	return x
}

func (c byChance) types() []api.Type {
	l := make([]api.Type, c.length())
	for i := range l {
		l[i] = c.typeOf()
	}
	return l
}

func (c byChance) length() int {
	switch c.Intn(60) {
	case 0:
		return 1020 + c.Intn(10)
	case 1:
		return c.Intn(1000)
	}
	return c.Intn(6)
}

func (c byChance) value(k int) api.Value {
	if c.Intn(8) == 0 {
		k = c.Intn(6) - 1
	}
	switch k {
	case api.VInt:
		return api.Value{K: k, N: int64(int32(c.Uint32()))}
	case api.VLong:
		return api.Value{K: k, N: int64(c.Uint64())}
	case api.VRef:
		return api.Value{K: k, R: c.Intn(1025)}
	}
	return api.Value{K: k}
}

// makesOne makes something in both, and holds the answers against each other.
func (c byChance) makesOne(t *testing.T, x pair) {
	t.Helper()
	what, data := c.typeOf(), c.types()
	n, of := len(data)-c.Intn(2)*c.Intn(2), c.typeOf()
	var r, want int
	var e, f api.Errno
	if c.Intn(2) == 0 {
		r, e = x.h.Make(what, data)
		want, f = x.p.make(what, data)
	} else {
		r, e = x.h.Array(what, of, n)
		want, f = x.p.array(what, of, n)
	}
	for i := range data { // it is nobody's any more
		data[i] = c.typeOf()
	}
	if r != want || e != f {
		t.Fatalf("made: %d, %d; want %d, %d", r, e, want, f)
	}
}

// setsOne sets something in both, asks for it, and holds the answers against each other.
func (c byChance) setsOne(t *testing.T, x pair) {
	t.Helper()
	r := c.Intn(len(x.p.l)+3) - 1
	n := x.h.Len(r)
	i := c.Intn(n+3) - 1
	old, e := x.h.Get(r, i)
	if want, f := x.p.get(r, i); old != want || e != f {
		t.Fatalf("Get(%d, %d): %v, %d; want %v, %d", r, i, old, e, want, f)
	}
	v := c.value(old.K)
	if e, f := x.h.Set(r, i, v), x.p.set(r, i, v); e != f {
		t.Fatalf("Set(%d, %d, %v): %d; want %d", r, i, v, e, f)
	}
	now, e := x.h.Get(r, i)
	if want, f := x.p.get(r, i); now != want || e != f {
		t.Fatalf("Get(%d, %d): %v, %d; want %v, %d", r, i, now, e, want, f)
	}
}

// plays does a script by chance, and answers the heaps that were in it.
func plays(t *testing.T, seed int64, most, steps int) []pair {
	t.Helper()
	c := byChance{rand.New(rand.NewSource(seed))}
	l := []pair{{newHeap(t, most), &plain{most: most}}}
	for step := range steps {
		x := l[c.Intn(len(l))]
		switch k := c.Intn(100); {
		case k < 25:
			c.makesOne(t, x)
		case k < 98:
			c.setsOne(t, x)
		case k < 99 && len(l) < 4:
			l = append(l, pair{x.h.Copy(), &plain{most: most, l: cloned(x.p.l)}})
		default: // an answer is the asker's own
			for _, o := range x.h.All() {
				for i := range o.Data {
					o.Data[i] = c.value(0)
				}
			}
		}
		if step%(steps/5) == 0 {
			for _, x := range l {
				holds(t, x.h, x.p.l)
			}
		}
	}
	for _, x := range l {
		holds(t, x.h, x.p.l)
	}
	return l
}

func TestByChance(t *testing.T) { // P14.1, P14.2, P14.4: scripts by chance, held against plain lists of objects
	for seed := range int64(40) {
		for _, most := range []int{0, 1, 3, 20, 100} {
			plays(t, seed, most, 500)
		}
	}
}

func TestLongScript(t *testing.T) { // likewise, of great heaps
	for seed := range int64(3) {
		plays(t, 100+seed, api.MaxObjects, 20000)
	}
}

func TestPlayedAgain(t *testing.T) { // P5: the same calls have the same answers
	for seed := range int64(10) {
		a, b := plays(t, 200+seed, 50, 1000), plays(t, 200+seed, 50, 1000)
		for k := range a {
			if !same(a[k].h.All(), b[k].h.All()) {
				t.Errorf("%v; want %v", b[k].h.All(), a[k].h.All())
			}
		}
	}
}
