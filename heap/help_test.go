package heap_test

import (
	"cmp"
	"math"
	"slices"
	"testing"

	"understudy/api"
	"understudy/heap"
)

// Types that objects and their values have.
var (
	aClass = api.Type{K: api.KRef, Name: "A"}
	anInt  = api.Type{K: api.KInt}
	aLong  = api.Type{K: api.KLong}
	aTop   = api.Type{K: api.KTop}
	aNull  = api.Type{K: api.KNull}
	ints   = api.Type{K: api.KArray, Dims: 1, Elem: api.KInt}
)

// firsts are the kinds of the first values, by those of types, as the chapter tells them.
var firsts = map[int]int{
	api.KInt: api.VInt, api.KLong: api.VLong, api.KRef: api.VRef, api.KArray: api.VRef, api.KNull: api.VRef,
	api.KTop: api.VTop, api.KNew: api.VTop, api.KThis: api.VTop, api.KVoid: api.VTop,
	-1: api.VTop, -2: api.VTop, 9: api.VTop, 10: api.VTop, 256 + api.KInt: api.VTop, 1<<32 + api.KRef: api.VTop, -1 << 32: api.VTop, math.MinInt: api.VTop, math.MaxInt: api.VTop,
}

// allTypes are types of each kind, and of kinds that there are not, in order: the kind alone, and with all that a type may have beside it.
func allTypes() []api.Type {
	var l []api.Type
	for k := range firsts {
		l = append(l, api.Type{K: k}, api.Type{K: k, Name: "[LB;", Dims: 3, Elem: api.KLong, At: 7}, api.Type{K: k, Name: "\xFF", Dims: math.MinInt, Elem: -1, At: math.MaxInt})
	}
	slices.SortStableFunc(l, func(a, b api.Type) int { return cmp.Compare(a.K, b.K) })
	return l
}

// firstByHand answers the first value of the type x.
func firstByHand(x api.Type) api.Value { return api.Value{K: firsts[x.K]} }

// values are values of each kind, and of kinds that there are not.
func values() []api.Value {
	l := []api.Value{{K: api.VTop}, {K: -1}, {K: 4}, {K: 256 + api.VInt}, {K: 1<<32 + api.VLong}, {K: math.MinInt}, {K: math.MaxInt}}
	for _, n := range []int64{0, 1, -1, math.MaxInt32, math.MinInt32} {
		l = append(l, api.Value{K: api.VInt, N: n}, api.Value{K: api.VLong, N: n})
	}
	for _, n := range []int64{1 << 32, math.MaxInt64, math.MinInt64} {
		l = append(l, api.Value{K: api.VLong, N: n})
	}
	for _, r := range []int{0, 1, 2, 9, 1024} {
		l = append(l, api.Value{K: api.VRef, R: r})
	}
	return l
}

// outside are numbers that are not from (with it) to to (not with it): beside them, the least, the greatest, and such that look alike if they are cut.
func outside(from, to int) []int {
	l := []int{from - 1, from - 2, to, to + 1, -1, -from, -to, math.MinInt, math.MinInt + 1, math.MaxInt, math.MaxInt - 1}
	for _, n := range []int{8, 16, 31, 32, 33, 62} {
		l = append(l, 1<<n+from, -1<<n+from, 1<<n, -1<<n)
	}
	return slices.DeleteFunc(l, func(n int) bool { return n >= from && n < to })
}

// newHeap makes a heap that must be made.
func newHeap(t *testing.T, most int) *heap.Heap {
	t.Helper()
	h, e := heap.New(most)
	if h == nil || e != api.OK {
		t.Fatalf("New(%d): %v, %d", most, h, e)
	}
	return h
}

// makes asks that Make makes the object r.
func makes(t *testing.T, h *heap.Heap, r int, x api.Type, data ...api.Type) {
	t.Helper()
	if n, e := h.Make(x, data); n != r || e != api.OK {
		t.Errorf("Make of %d: %d, %d; want %d", len(data), n, e, r)
	}
}

// arrays asks that Array makes the object r.
func arrays(t *testing.T, h *heap.Heap, r int, x, of api.Type, n int) {
	t.Helper()
	if m, e := h.Array(x, of, n); m != r || e != api.OK {
		t.Errorf("Array of %d: %d, %d; want %d", n, m, e, r)
	}
}

// gets asks that Get tells that value.
func gets(t *testing.T, h *heap.Heap, r, i int, want api.Value) {
	t.Helper()
	if v, e := h.Get(r, i); v != want || e != api.OK {
		t.Errorf("Get(%d, %d): %v, %d; want %v", r, i, v, e, want)
	}
}

// sets asks that Set takes that value.
func sets(t *testing.T, h *heap.Heap, r, i int, v api.Value) {
	t.Helper()
	if e := h.Set(r, i, v); e != api.OK {
		t.Errorf("Set(%d, %d, %v): %d", r, i, v, e)
	}
}

// keeps asks that what a call does changes nothing of the heap.
func keeps(t *testing.T, h *heap.Heap, call func()) {
	t.Helper()
	before, count := h.All(), h.Count()
	call()
	if after := h.All(); !same(after, before) || h.Count() != count {
		t.Errorf("%d objects; were %d: %v; were %v", h.Count(), count, after, before)
	}
}

// refusesMake asks that Make errs so, and changes nothing.
func refusesMake(t *testing.T, h *heap.Heap, want api.Errno, data ...api.Type) {
	t.Helper()
	keeps(t, h, func() {
		if n, e := h.Make(aClass, data); n != 0 || e != want {
			t.Errorf("Make of %d: %d, %d; want %d", len(data), n, e, want)
		}
	})
}

// refusesArray asks that Array errs so, and changes nothing.
func refusesArray(t *testing.T, h *heap.Heap, want api.Errno, of api.Type, n int) {
	t.Helper()
	keeps(t, h, func() {
		if m, e := h.Array(ints, of, n); m != 0 || e != want {
			t.Errorf("Array of %d: %d, %d; want %d", n, m, e, want)
		}
	})
}

// refusesPlace asks that Get, and Set of each value, err so at that place, and change nothing.
func refusesPlace(t *testing.T, h *heap.Heap, r, i int, want api.Errno) {
	t.Helper()
	keeps(t, h, func() {
		if v, e := h.Get(r, i); v != (api.Value{}) || e != want {
			t.Errorf("Get(%d, %d): %v, %d; want %d", r, i, v, e, want)
		}
		for _, v := range values() {
			if e := h.Set(r, i, v); e != want {
				t.Errorf("Set(%d, %d, %v): %d; want %d", r, i, v, e, want)
			}
		}
	})
}

// isNone asks that there is no object r.
func isNone(t *testing.T, h *heap.Heap, r int) {
	t.Helper()
	if x, e := h.Type(r); x != (api.Type{}) || e != api.ErrNone {
		t.Errorf("Type(%d): %v, %d", r, x, e)
	}
	if n := h.Len(r); n != 0 {
		t.Errorf("Len(%d): %d", r, n)
	}
	for _, i := range []int{0, 1, -1, math.MinInt, math.MaxInt} {
		refusesPlace(t, h, r, i, api.ErrNone)
	}
}

// same tells whether both lists have the same objects.
func same(a, b []api.Object) bool {
	return slices.EqualFunc(a, b, func(x, y api.Object) bool { return x.T == y.T && slices.Equal(x.Data, y.Data) })
}

// cloned answers the same objects in memory of their own.
func cloned(l []api.Object) []api.Object {
	l = slices.Clone(l)
	for k := range l {
		l[k].Data = slices.Clone(l[k].Data)
	}
	return l
}

// holds asks that a heap has just those objects, by each of its calls.
func holds(t *testing.T, h *heap.Heap, want []api.Object) {
	t.Helper()
	if h.Count() != len(want) {
		t.Errorf("Count: %d; want %d", h.Count(), len(want))
	}
	if l := h.All(); !same(l, want) {
		t.Errorf("All: %v; want %v", l, want)
	}
	for k, o := range want {
		if x, e := h.Type(k + 1); x != o.T || e != api.OK {
			t.Errorf("Type(%d): %v, %d; want %v", k+1, x, e, o.T)
		}
		if n := h.Len(k + 1); n != len(o.Data) {
			t.Errorf("Len(%d): %d; want %d", k+1, n, len(o.Data))
		}
		for i, v := range o.Data {
			gets(t, h, k+1, i, v)
		}
	}
}
