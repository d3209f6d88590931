package heap_test

import (
	"testing"

	"understudy/api"
	"understudy/heap"
)

// errsZero asks that all calls of a heap answer that it is none.
func errsZero(t *testing.T, h *heap.Heap) {
	t.Helper()
	for _, data := range [][]api.Type{nil, {anInt}, many(api.MaxLength), many(api.MaxLength + 1)} {
		if n, e := h.Make(aClass, data); n != 0 || e != api.ErrZero {
			t.Errorf("Make of %d: %d, %d", len(data), n, e)
		}
	}
	for _, n := range append(outside(0, 0), 0, 1, api.MaxLength, api.MaxLength+1) {
		if m, e := h.Array(ints, anInt, n); m != 0 || e != api.ErrZero {
			t.Errorf("Array of %d: %d, %d", n, m, e)
		}
	}
	for _, r := range append(outside(1, 1), 0, 1, 2) {
		if x, e := h.Type(r); x != (api.Type{}) || e != api.ErrZero {
			t.Errorf("Type(%d): %v, %d", r, x, e)
		}
		if n := h.Len(r); n != 0 {
			t.Errorf("Len(%d): %d", r, n)
		}
		for _, i := range append(outside(0, 0), 0, 1) {
			if v, e := h.Get(r, i); v != (api.Value{}) || e != api.ErrZero {
				t.Errorf("Get(%d, %d): %v, %d", r, i, v, e)
			}
			for _, v := range values() {
				if e := h.Set(r, i, v); e != api.ErrZero {
					t.Errorf("Set(%d, %d, %v): %d", r, i, v, e)
				}
			}
		}
	}
	if c := h.Copy(); c != nil {
		t.Errorf("Copy: %v", c)
	}
	if n, l := h.Count(), h.All(); n != 0 || len(l) != 0 {
		t.Errorf("Count: %d, All: %v", n, l)
	}
}

func TestZero(t *testing.T) { // P14.3, P1: a heap that is nil, and one that no call made, and once more
	var none *heap.Heap
	var unmade heap.Heap
	for range 2 {
		for _, h := range []*heap.Heap{none, &unmade, {}, new(heap.Heap), none.Copy(), unmade.Copy()} {
			errsZero(t, h)
		}
	}
}

func TestRefusedIsNone(t *testing.T) { // P14.3: what a refused New answers
	h, _ := heap.New(-1)
	errsZero(t, h)
}
