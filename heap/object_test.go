package heap_test

import (
	"testing"

	"understudy/api"
	"understudy/heap"
)

// three answers a heap of three objects, of which the second has no values, and those objects.
func three(t *testing.T) (*heap.Heap, []api.Object) {
	t.Helper()
	h := newHeap(t, 9)
	makes(t, h, 1, aClass, anInt, aLong, aClass)
	makes(t, h, 2, aClass)
	arrays(t, h, 3, ints, anInt, 2)
	return h, []api.Object{
		{T: aClass, Data: []api.Value{{K: api.VInt}, {K: api.VLong}, {K: api.VRef}}}, {T: aClass}, {T: ints, Data: []api.Value{{K: api.VInt}, {K: api.VInt}}},
	}
}

func TestNoObject(t *testing.T) { // P14.2, P6: Type, Len, Get and Set of what is none
	for _, most := range []int{0, 1, 5} {
		h := newHeap(t, most)
		for r := 0; r <= most; r++ { // r objects are there
			for _, n := range outside(1, r+1) {
				isNone(t, h, n)
			}
			if r < most {
				makes(t, h, r+1, aClass, anInt)
			}
		}
	}
}

func TestFirstAndLast(t *testing.T) { // P14.2: of the first and the last object, as many as there are
	h := newHeap(t, 20)
	for n := 1; n <= 20; n++ {
		x := api.Type{K: api.KArray, Name: "B", Dims: n, Elem: api.KRef, At: -n}
		arrays(t, h, n, x, anInt, n)
		sets(t, h, n, n-1, api.Value{K: api.VInt, N: int64(n)})
		for _, r := range []int{1, n} {
			if got, e := h.Type(r); got != (api.Type{K: api.KArray, Name: "B", Dims: r, Elem: api.KRef, At: -r}) || e != api.OK {
				t.Errorf("Type(%d): %v, %d", r, got, e)
			}
			if h.Len(r) != r {
				t.Errorf("Len(%d): %d", r, h.Len(r))
			}
			gets(t, h, r, r-1, api.Value{K: api.VInt, N: int64(r)})
		}
	}
}

func TestNoPlace(t *testing.T) { // P14.2, P6: Get and Set at what is no place, of which there may be one in the object behind it
	h, want := three(t)
	for k, o := range want {
		for _, i := range outside(0, len(o.Data)) {
			refusesPlace(t, h, k+1, i, api.ErrArg)
		}
	}
	holds(t, h, want)
}

func TestSet(t *testing.T) { // P14.2: at the first place, in between, and at the last
	h, want := three(t)
	for _, x := range []struct {
		r, i int
		v    api.Value
	}{
		{1, 0, api.Value{K: api.VInt, N: 5}}, {1, 1, api.Value{K: api.VLong, N: -1 << 63}}, {1, 2, api.Value{K: api.VRef, R: 3}},
		{3, 0, api.Value{K: api.VInt, N: -7}}, {3, 1, api.Value{K: api.VInt, N: 1<<31 - 1}}, {1, 0, api.Value{K: api.VInt, N: 6}}, {1, 2, api.Value{K: api.VRef}},
		{1, 2, api.Value{K: api.VRef, R: 1 << 40}}, {1, 1, api.Value{K: api.VLong, N: 1<<63 - 1}}, {3, 0, api.Value{K: api.VInt}},
	} {
		sets(t, h, x.r, x.i, x.v)
		want[x.r-1].Data[x.i] = x.v
		holds(t, h, want)
	}
}

func TestSetFits(t *testing.T) { // P14.2: each kind of value over each other one; it fits if both have the same K
	types := []api.Type{anInt, aLong, aClass, ints, aNull, aTop, {K: api.KNew, At: 3}, {K: api.KThis}, {K: api.KVoid}, {K: 9}, {K: -1}}
	h := newHeap(t, 2)
	makes(t, h, 1, aClass, types...)
	makes(t, h, 2, aClass, anInt)
	for range 2 {
		for i, x := range types {
			for _, v := range values() {
				if v.K == firstByHand(x).K {
					sets(t, h, 1, i, v)
					gets(t, h, 1, i, v)
					continue
				}
				keeps(t, h, func() {
					if e := h.Set(1, i, v); e != api.ErrArg {
						t.Errorf("Set of %v over %v: %d", v, firstByHand(x), e)
					}
				})
			}
		}
	}
	gets(t, h, 2, 0, api.Value{K: api.VInt})
}

func TestSetWhole(t *testing.T) { // P14.2, P14.4: what was set is told, all of it; K alone must fit
	h := newHeap(t, 1)
	makes(t, h, 1, aClass, anInt, aLong, aClass, aTop)
	for i, k := range []int{api.VInt, api.VLong, api.VRef, api.VTop} {
		v := api.Value{K: k, N: 1<<40 + int64(i), R: -5 - i}
		sets(t, h, 1, i, v)
		gets(t, h, 1, i, v)
	}
}

func TestNeighbours(t *testing.T) { // P14.2, P14.4: objects of many lengths, one behind the other; what was set stays told while others are made, and nothing beside it changes
	h := newHeap(t, api.MaxObjects)
	var want []api.Object
	for _, n := range []int{0, 1, 2, 3, 0, 0, 7, 8, 9, 31, 1, 64, 100, 0, 1, 1024, 2, 5, 0, 33, 1000, 1} {
		r := len(want) + 1
		arrays(t, h, r, ints, anInt, n)
		want = append(want, api.Object{T: ints, Data: make([]api.Value, n)})
		for i := range n {
			want[r-1].Data[i].K = api.VInt
		}
		for k := range want { // each object's ends anew
			for _, i := range []int{0, len(want[k].Data) - 1} {
				if i < 0 || i >= len(want[k].Data) {
					continue
				}
				want[k].Data[i].N += int64(10000*r + 100*k + i)
				sets(t, h, k+1, i, want[k].Data[i])
			}
		}
		holds(t, h, want)
	}
	for k, o := range want { // and each place once
		for i := range o.Data {
			o.Data[i].N = int64(10000*k - i)
			sets(t, h, k+1, i, o.Data[i])
		}
	}
	holds(t, h, want)
}

func TestAskedAgain(t *testing.T) { // P5: what is asked again is answered the same, and asking changes nothing
	h, want := three(t)
	for range 3 {
		holds(t, h, want)
		isNone(t, h, 4)
		refusesPlace(t, h, 1, 3, api.ErrArg)
		h.Copy()
	}
}
