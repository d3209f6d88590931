package heap_test

import (
	"math"
	"slices"
	"testing"

	"understudy/api"
	"understudy/heap"
)

// many answers n types, of all kinds in turn.
func many(n int) []api.Type {
	kinds := []api.Type{anInt, aLong, aClass, ints, aNull, aTop}
	l := make([]api.Type, n)
	for i := range l {
		l[i] = kinds[i%len(kinds)]
	}
	return l
}

// firstsOf answers the first values of those types.
func firstsOf(types []api.Type) []api.Value {
	var l []api.Value
	for _, x := range types {
		l = append(l, firstByHand(x))
	}
	return l
}

func TestExample(t *testing.T) { // the chapter's
	h := newHeap(t, 1)
	makes(t, h, 1, aClass)
	refusesMake(t, h, api.ErrMemory)
}

func TestNew(t *testing.T) { // P14.1, the limit MaxObjects: empty; as many can be made as are said, in both ways
	for _, most := range []int{0, 1, 2, 3, 10, 100, 255, 256, 257, api.MaxObjects - 1, api.MaxObjects} {
		h, g := newHeap(t, most), newHeap(t, most)
		holds(t, h, nil)
		for _, r := range append(outside(1, 1), 0, 1, 2, most) {
			isNone(t, h, r)
		}
		for r := 1; r <= most; r++ {
			makes(t, h, r, aClass)
			arrays(t, g, r, ints, anInt, 0)
			if h.Count() != r || g.Count() != r {
				t.Fatalf("Count: %d, %d; want %d", h.Count(), g.Count(), r)
			}
		}
		for range 3 {
			refusesMake(t, h, api.ErrMemory)
			refusesArray(t, h, api.ErrMemory, anInt, 0)
			refusesMake(t, g, api.ErrMemory)
			refusesArray(t, g, api.ErrMemory, anInt, 0)
		}
	}
}

func TestNewRefused(t *testing.T) { // P14.1, P2, P6
	for _, most := range append(outside(0, api.MaxObjects+1), 1<<11, 2000, -1024, -1025) {
		if h, e := heap.New(most); h != nil || e != api.ErrArg {
			t.Errorf("New(%d): %v, %d", most, h, e)
		}
	}
}

func TestHeapOfNothing(t *testing.T) { // P14.1: where nothing can be made
	h := newHeap(t, 0)
	refusesMake(t, h, api.ErrMemory)
	refusesMake(t, h, api.ErrMemory, anInt)
	refusesMake(t, h, api.ErrMemory, many(api.MaxLength)...)
	refusesMake(t, h, api.ErrArg, many(api.MaxLength+1)...)
	refusesArray(t, h, api.ErrArg, anInt, -1)
	for _, n := range []int{0, 1, api.MaxLength, api.MaxLength + 1, math.MaxInt} {
		refusesArray(t, h, api.ErrMemory, anInt, n)
	}
	holds(t, h, nil)
	isNone(t, h, 1)
	holds(t, h.Copy(), nil)
}

func TestFirst(t *testing.T) { // the chapter's words: the kind alone counts
	for _, x := range []struct {
		k    int
		want api.Value
	}{
		{api.KInt, api.Value{K: api.VInt}}, {api.KLong, api.Value{K: api.VLong}}, {api.KRef, api.Value{K: api.VRef}}, {api.KArray, api.Value{K: api.VRef}}, {api.KNull, api.Value{K: api.VRef}},
		{api.KTop, api.Value{}}, {api.KNew, api.Value{}}, {api.KThis, api.Value{}}, {api.KVoid, api.Value{}}, {-1, api.Value{}}, {9, api.Value{}},
	} {
		if v := heap.First(api.Type{K: x.k}); v != x.want {
			t.Errorf("First of %d: %v; want %v", x.k, v, x.want)
		}
	}
	for range 2 { // P5: and once more
		for _, x := range allTypes() {
			if v := heap.First(x); v != firstByHand(x) {
				t.Errorf("First(%v): %v; want %v", x, v, firstByHand(x))
			}
		}
	}
}

func TestMakeNone(t *testing.T) { // P14.1, P3: an object that has no values
	h := newHeap(t, 3)
	for r, data := range [][]api.Type{nil, {}, many(5)[:0]} {
		if n, e := h.Make(aClass, data); n != r+1 || e != api.OK {
			t.Errorf("Make of none: %d, %d", n, e)
		}
		for _, i := range append(outside(0, 0), 0, 1) {
			refusesPlace(t, h, r+1, i, api.ErrArg)
		}
	}
	holds(t, h, []api.Object{{T: aClass}, {T: aClass}, {T: aClass}})
}

func TestMakeKinds(t *testing.T) { // P14.1: with one of each kind, by itself and all of them; its type is told as it was handed in
	h := newHeap(t, api.MaxObjects)
	var want []api.Object
	for _, x := range allTypes() {
		makes(t, h, len(want)+1, x, x)
		want = append(want, api.Object{T: x, Data: []api.Value{firstByHand(x)}})
	}
	makes(t, h, len(want)+1, aClass, allTypes()...)
	want = append(want, api.Object{T: aClass, Data: firstsOf(allTypes())})
	makes(t, h, len(want)+1, ints, anInt, aLong, aLong, aClass, aTop, anInt)
	want = append(want, api.Object{T: ints, Data: []api.Value{{K: api.VInt}, {K: api.VLong}, {K: api.VLong}, {K: api.VRef}, {}, {K: api.VInt}}})
	makes(t, h, len(want)+1, api.Type{}, aTop)
	holds(t, h, append(want, api.Object{Data: []api.Value{{}}}))
}

func TestMakeMost(t *testing.T) { // P14.1, the limit MaxLength: at it all is as below it
	h := newHeap(t, 10)
	var want []api.Object
	for _, n := range []int{1, api.MaxLength - 1, api.MaxLength, 3, api.MaxLength} {
		makes(t, h, len(want)+1, aClass, many(n)...)
		want = append(want, api.Object{T: aClass, Data: firstsOf(many(n))})
	}
	for _, n := range []int{api.MaxLength + 1, api.MaxLength + 2, 2 * api.MaxLength, 1 << 16, 1<<16 + 1} {
		refusesMake(t, h, api.ErrArg, many(n)...)
	}
	holds(t, h, want)
	makes(t, h, len(want)+1, aClass, anInt) // a refused one has no number
}

func TestMakeFull(t *testing.T) { // P14.1, P2: in a full heap; too many types go ahead of that
	for _, most := range []int{1, 2, 7} {
		h := newHeap(t, most)
		for r := 1; r <= most; r++ {
			refusesMake(t, h, api.ErrArg, many(api.MaxLength+1)...)
			makes(t, h, r, aClass, many(r)...)
		}
		for _, n := range []int{0, 1, 5, api.MaxLength} {
			refusesMake(t, h, api.ErrMemory, many(n)...)
		}
		for _, n := range []int{api.MaxLength + 1, 5000} {
			refusesMake(t, h, api.ErrArg, many(n)...)
		}
	}
}

func TestMakeKeepsNothing(t *testing.T) { // P4: the types that are handed in are neither changed nor kept
	h := newHeap(t, 3)
	data := allTypes()
	room := data[:len(data)-2]
	makes(t, h, 1, aClass, room...)
	if !slices.Equal(data, allTypes()) {
		t.Errorf("changed: %v", data)
	}
	for i := range data {
		data[i] = aLong
	}
	makes(t, h, 2, aClass, data...)
	for i := range data {
		data[i] = anInt
	}
	a, b := firstsOf(allTypes())[:len(room)], slices.Repeat([]api.Value{{K: api.VLong}}, len(data))
	holds(t, h, []api.Object{{T: aClass, Data: a}, {T: aClass, Data: b}})
}

func TestArray(t *testing.T) { // P14.1: of each kind and many lengths; the type of what it holds is that of its values, its own is told
	for _, x := range allTypes() {
		h := newHeap(t, 8)
		var want []api.Object
		for _, n := range []int{0, 1, 2, 17, api.MaxLength - 1, api.MaxLength, 0, 1} {
			arrays(t, h, len(want)+1, ints, x, n)
			want = append(want, api.Object{T: ints, Data: slices.Repeat([]api.Value{firstByHand(x)}, n)})
		}
		holds(t, h, want)
		g := newHeap(t, 2)
		arrays(t, g, 1, x, anInt, 2)
		arrays(t, g, 2, x, aClass, 1)
		holds(t, g, []api.Object{{T: x, Data: []api.Value{{K: api.VInt}, {K: api.VInt}}}, {T: x, Data: []api.Value{{K: api.VRef}}}})
	}
}

func TestArrayRefused(t *testing.T) { // P14.1, P2, P6: a length below 0 goes ahead of what there is no room for
	below := []int{-1, -2, -api.MaxLength, -1 << 31, -1 << 32, math.MinInt, math.MinInt + 1}
	above := []int{api.MaxLength + 1, api.MaxLength + 2, 1 << 16, 1 << 31, 1 << 32, 1<<32 + 1, math.MaxInt, math.MaxInt - 1}
	for _, x := range allTypes() {
		h := newHeap(t, 2)
		for r := range 3 { // empty, with room, full
			for _, n := range below {
				refusesArray(t, h, api.ErrArg, x, n)
			}
			for _, n := range above {
				refusesArray(t, h, api.ErrMemory, x, n)
			}
			if r < 2 {
				arrays(t, h, r+1, ints, x, 2)
			}
		}
		for _, n := range []int{0, 1, api.MaxLength} {
			refusesArray(t, h, api.ErrMemory, x, n)
		}
	}
}

func TestBothCount(t *testing.T) { // P14.1: objects and arrays are numbered together, and both take room
	h := newHeap(t, 4)
	makes(t, h, 1, aClass, anInt)
	arrays(t, h, 2, ints, anInt, 2)
	makes(t, h, 3, aClass)
	arrays(t, h, 4, ints, aLong, 1)
	refusesMake(t, h, api.ErrMemory, anInt)
	refusesArray(t, h, api.ErrMemory, anInt, 1)
	holds(t, h, []api.Object{
		{T: aClass, Data: []api.Value{{K: api.VInt}}}, {T: ints, Data: []api.Value{{K: api.VInt}, {K: api.VInt}}},
		{T: aClass}, {T: ints, Data: []api.Value{{K: api.VLong}}},
	})
}

func TestGreatest(t *testing.T) { // the limits MaxObjects and MaxLength together
	h := newHeap(t, api.MaxObjects)
	for r := 1; r <= api.MaxObjects; r++ {
		arrays(t, h, r, ints, aLong, api.MaxLength)
		for _, i := range []int{0, 500, api.MaxLength - 1} {
			sets(t, h, r, i, api.Value{K: api.VLong, N: int64(r*api.MaxLength + i)})
		}
	}
	refusesArray(t, h, api.ErrMemory, aLong, 0)
	c := h.Copy()
	for r := 1; r <= api.MaxObjects; r++ {
		for _, i := range []int{0, 1, 499, 500, 501, api.MaxLength - 2, api.MaxLength - 1} {
			want := api.Value{K: api.VLong}
			if i%500 == 0 || i == api.MaxLength-1 {
				want.N = int64(r*api.MaxLength + i)
			}
			gets(t, h, r, i, want)
			gets(t, c, r, i, want)
		}
	}
	if !same(h.All(), c.All()) {
		t.Error("the copy has other objects")
	}
}
