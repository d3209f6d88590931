package heap_test

import (
	"testing"

	"understudy/api"
	"understudy/heap"
)

// copyOf answers a copy that must be another heap.
func copyOf(t *testing.T, h *heap.Heap) *heap.Heap {
	t.Helper()
	c := h.Copy()
	if c == nil || c == h {
		t.Fatalf("Copy: %p of %p", c, h)
	}
	return c
}

func TestCopyIsSame(t *testing.T) { // P14.2: with the same objects
	h, want := three(t)
	sets(t, h, 1, 1, api.Value{K: api.VLong, N: 1 << 40})
	want[0].Data[1].N = 1 << 40
	holds(t, copyOf(t, h), want)
	holds(t, copyOf(t, copyOf(t, h)), want)
	holds(t, h, want)
	holds(t, copyOf(t, newHeap(t, 3)), nil)
}

func TestCopyHasRoom(t *testing.T) { // P14.2: for as many objects as the other one
	for _, most := range []int{0, 1, 2, 5, api.MaxObjects} {
		for there := 0; there <= min(most, 5); there++ {
			h := newHeap(t, most)
			for r := 1; r <= there; r++ {
				makes(t, h, r, aClass, anInt)
			}
			c := copyOf(t, h)
			for r := there + 1; r <= most; r++ {
				makes(t, c, r, aClass, anInt)
			}
			refusesMake(t, c, api.ErrMemory, anInt)
			refusesArray(t, c, api.ErrMemory, anInt, 0)
			if h.Count() != there {
				t.Errorf("Count: %d; want %d", h.Count(), there)
			}
		}
	}
}

func TestCopyIsItsOwn(t *testing.T) { // P14.2, P4: what is set in one is not seen in the other, both ways
	h, want := three(t)
	c := copyOf(t, h)
	d := copyOf(t, c)
	other, third := cloned(want), cloned(want)
	for _, x := range []struct {
		h    *heap.Heap
		want []api.Object
		n    int64
	}{{h, want, 5}, {c, other, 6}, {d, third, 7}, {h, want, 8}, {d, third, 9}, {c, other, 10}} {
		sets(t, x.h, 1, 0, api.Value{K: api.VInt, N: x.n})
		sets(t, x.h, 3, 1, api.Value{K: api.VInt, N: -x.n})
		sets(t, x.h, 1, 2, api.Value{K: api.VRef, R: int(x.n)})
		x.want[0].Data[0].N, x.want[2].Data[1].N, x.want[0].Data[2].R = x.n, -x.n, int(x.n)
		holds(t, h, want)
		holds(t, c, other)
		holds(t, d, third)
	}
}

func TestCopyMakesItsOwn(t *testing.T) { // P14.2, P4: what is made in one is not seen in the other, both ways, whatever room there was left
	for made := range 12 {
		h := newHeap(t, 40)
		for r := 1; r <= made; r++ {
			arrays(t, h, r, ints, anInt, r)
		}
		want := h.All()
		c := copyOf(t, h)
		other := cloned(want)
		for n := range 10 {
			arrays(t, h, made+n+1, ints, aLong, 1)
			sets(t, h, made+n+1, 0, api.Value{K: api.VLong, N: int64(n)})
			want = append(want, api.Object{T: ints, Data: []api.Value{{K: api.VLong, N: int64(n)}}})
			holds(t, c, other)
			makes(t, c, made+n+1, aClass, aClass, anInt)
			sets(t, c, made+n+1, 0, api.Value{K: api.VRef, R: n})
			other = append(other, api.Object{T: aClass, Data: []api.Value{{K: api.VRef, R: n}, {K: api.VInt}}})
			holds(t, h, want)
			holds(t, c, other)
		}
	}
}

func TestAllIsNew(t *testing.T) { // P4: what is changed in what All answers is not seen in the heap, and the other way round
	h, want := three(t)
	l := h.All()
	for k := range l {
		l[k].T = aTop
		for i := range l[k].Data {
			l[k].Data[i] = api.Value{K: api.VLong, N: 99, R: 99}
		}
	}
	holds(t, h, want)
	l = h.All()
	sets(t, h, 1, 0, api.Value{K: api.VInt, N: 4})
	makes(t, h, 4, aClass, anInt)
	if !same(l, want) {
		t.Errorf("All: %v; want %v", l, want)
	}
}

func TestAllSharesNothing(t *testing.T) { // P4: no two lists of one answer, nor of two, share memory; also not by append
	h := newHeap(t, 50)
	for r := 1; r <= 50; r++ {
		arrays(t, h, r, ints, anInt, r%5)
	}
	want := h.All()
	l, m := h.All(), h.All()
	for k := range l {
		for range 6 {
			l[k].Data = append(l[k].Data, api.Value{K: api.VLong, N: 7})
		}
		l[k].Data = l[k].Data[:len(want[k].Data)]
	}
	if !same(l, want) || !same(m, want) {
		t.Errorf("All: %v, %v; want %v", l, m, want)
	}
	for k := range l {
		for i := range l[k].Data {
			l[k].Data[i].N = 9
		}
		if !same(l[k+1:], want[k+1:]) {
			t.Fatalf("what stands behind %d is changed", k)
		}
	}
	if l = append(l[:10], api.Object{T: aTop}); len(l) != 11 || !same(m, want) {
		t.Errorf("All: %v; want %v", m, want)
	}
	holds(t, h, want)
}

func TestAllStays(t *testing.T) { // P4: an answer is not changed by what is appended to it in the heap's place
	h := newHeap(t, 30)
	for r := 1; r <= 30; r++ {
		l := h.All()
		grown := append(l, api.Object{T: aTop, Data: []api.Value{{N: 5}}})
		arrays(t, h, r, ints, anInt, 1)
		if len(l) != r-1 || grown[r-1].T != aTop || h.Count() != r {
			t.Errorf("%d objects: %v", r, grown[r-1])
		}
		for k := range l {
			grown := append(l[k].Data, api.Value{K: api.VLong, N: 5})
			gets(t, h, k+1, 0, api.Value{K: api.VInt})
			if grown[1].N != 5 {
				t.Errorf("%v", grown)
			}
		}
		gets(t, h, r, 0, api.Value{K: api.VInt})
	}
}
