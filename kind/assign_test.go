package kind_test

import (
	"math"
	"math/rand"
	"slices"
	"testing"

	"understudy/api"
	"understudy/kind"
)

// trees are trees of which Object is at the top, if it is in them.
func trees() [][]kind.Pair {
	return [][]kind.Pair{
		nil,
		classes(),
		{{Name: "Object"}, {Name: "A", Super: "B"}, {Name: "B", Super: "A"}},
		{{Name: "B", Super: "A"}, {Name: "A", Super: "Object"}, {Name: "A", Super: "B"}},
		{{Name: "B", Super: "Object"}, {Name: "C", Super: "B"}, {Name: "Object"}, {Name: "C", Super: "A"}},
	}
}

// odd are trees of which Object is not at the top.
func odd() [][]kind.Pair {
	return [][]kind.Pair{
		{{Name: "Object", Super: "A"}, {Name: "B", Super: "Object"}},
		{{Name: "Object", Super: "Object"}},
		{{Name: "Object", Super: "A"}, {Name: "A", Super: "Object"}},
		{{Name: "Object"}, {Super: "A"}},
	}
}

// manyTypes are types of all kinds, right and wrong ones.
func manyTypes() []api.Type {
	var l []api.Type
	names := []string{"", "A", "B", "Object"}
	for _, k := range numbers() {
		l = append(l, api.Type{K: k}, api.Type{K: k, Name: "Object", Dims: 1, Elem: api.KRef}, api.Type{K: k, At: 3})
	}
	for _, n := range names {
		l = append(l, api.Type{K: api.KRef, Name: n}, api.Type{K: api.KRef, Name: n, Dims: 2, Elem: 1}, api.Type{K: api.KNew, Name: n}, api.Type{K: api.KNull, Name: n})
		for _, dims := range []int{math.MinInt, -1, 0, 1, 2, 3, 4, 5, math.MaxInt} {
			for _, elem := range []int{-1, 0, 1, 2, 3, 4, 5, 8} {
				l = append(l, api.Type{K: api.KArray, Name: n, Dims: dims, Elem: elem})
			}
		}
		l = append(l, api.Type{K: api.KArray, Name: n, Dims: 1, Elem: api.KRef, At: 1}, api.Type{K: api.KArray, Name: n, Dims: 1, Elem: api.KInt, At: 1})
	}
	return l
}

func TestAssignKinds(t *testing.T) { // P8.3, P6: each pair of kinds, and of what is none
	for _, a := range numbers() {
		for _, b := range numbers() {
			isNull := a == api.KNull && (b == api.KRef || b == api.KArray || b == api.KNull)
			stands(t, nil, api.Type{K: a}, api.Type{K: b}, a == b || b == api.KTop || isNull)
			ofObjects := b == api.KArray && a == api.KArray
			stands(t, nil, api.Type{K: a, At: 1}, api.Type{K: b}, b == api.KTop || isNull || ofObjects || a == api.KRef && b == api.KRef)
		}
		for _, b := range manyTypes() {
			if b.K == api.KTop {
				stands(t, nil, api.Type{K: a, Name: "X", At: 7}, b, true)
			}
		}
	}
}

func TestAssignSame(t *testing.T) { // P8.3: the same types, whatever they hold; of most kinds just the same
	for _, x := range manyTypes() {
		for _, tree := range [][]kind.Pair{nil, classes()} {
			stands(t, tree, x, x, true)
		}
		switch x.K {
		case api.KTop, api.KNull, api.KRef, api.KArray:
			continue
		}
		for _, other := range []api.Type{
			{K: x.K, Name: x.Name + "A", Dims: x.Dims, Elem: x.Elem, At: x.At},
			{K: x.K, Name: x.Name, Dims: x.Dims + 1, Elem: x.Elem, At: x.At},
			{K: x.K, Name: x.Name, Dims: x.Dims, Elem: x.Elem + 1, At: x.At},
			{K: x.K, Name: x.Name, Dims: x.Dims, Elem: x.Elem, At: x.At + 1},
			{K: x.K ^ 64, Name: x.Name, Dims: x.Dims, Elem: x.Elem, At: x.At},
		} {
			stands(t, nil, x, other, false)
			stands(t, nil, other, x, false)
		}
	}
}

func TestAssignNull(t *testing.T) { // P8.3: null against each
	for _, x := range manyTypes() {
		for _, null := range []api.Type{{K: api.KNull}, {K: api.KNull, Name: "A", Dims: -1, Elem: 9, At: 4}} {
			want := x.K == api.KTop || x.K == api.KNull || x.K == api.KRef || x.K == api.KArray
			stands(t, nil, null, x, want)
			stands(t, nil, x, null, x.K == api.KNull)
		}
	}
}

func TestAssignClasses(t *testing.T) { // P8.3: by their names alone
	tree := classes()
	for _, x := range []struct {
		a, b string
		want bool
	}{{"A", "A", true}, {"B", "A", true}, {"A", "B", false}, {"C", "A", true}, {"C", "Object", true}, {"D", "B", false}, {"E", "Far", true}, {"E", "Object", false}, {"Far", "E", false}, {"none", "none", true}, {"none", "Object", false}, {"Object", "A", false}, {"Object", "", true}, {"", "", true}, {"", "Object", false}} {
		a, b := api.Type{K: api.KRef, Name: x.a}, api.Type{K: api.KRef, Name: x.b}
		stands(t, tree, a, b, x.want)
		stands(t, nil, a, b, x.a == x.b)
		a.Dims, a.Elem, a.At = 4, 5, 6
		stands(t, tree, a, b, x.want)
		stands(t, tree, b, a, belowByHand(tree, x.b, x.a))
	}
}

func TestAssignArrayToClass(t *testing.T) { // P8.3: Object alone, whatever stands above it; and never the other way
	for _, tree := range append(trees(), odd()...) {
		for _, s := range []string{"[I", "[[J", "[LA;", "[LObject;", "[[[[LB;"} {
			a := of(t, s)
			for _, n := range []string{"", "A", "B", "Far", "object", "Objects", "Object ", "Throwable"} {
				stands(t, tree, a, api.Type{K: api.KRef, Name: n}, false)
				stands(t, tree, api.Type{K: api.KRef, Name: n}, a, false)
			}
			stands(t, tree, a, api.Type{K: api.KRef, Name: "Object"}, true)
			stands(t, tree, a, api.Type{K: api.KRef, Name: "Object", Dims: 2, Elem: 1, At: 3}, true)
			stands(t, tree, api.Type{K: api.KRef, Name: "Object"}, a, false)
			stands(t, tree, api.Type{K: api.KRef, Name: "Object"}, api.Type{K: api.KArray, Name: "Object"}, false)
		}
	}
}

func TestAssignArrays(t *testing.T) { // P8.3: the same Dims, more, and fewer
	tree := classes()
	for _, x := range []struct {
		a, b string
		want bool
	}{
		{"[I", "[I", true}, {"[I", "[J", false}, {"[J", "[I", false}, {"[I", "[LObject;", false}, {"[LA;", "[I", false}, {"[LObject;", "[J", false},
		{"[LB;", "[LA;", true}, {"[LA;", "[LB;", false}, {"[LC;", "[LObject;", true}, {"[LE;", "[LFar;", true}, {"[LE;", "[LObject;", false}, {"[Lnone;", "[Lnone;", true}, {"[Lnone;", "[LObject;", false},
		{"[[LB;", "[[LA;", true}, {"[[LA;", "[[LB;", false}, {"[[I", "[[J", false}, {"[[[[LC;", "[[[[LObject;", true}, {"[[[[J", "[[[[LObject;", false},
		{"[[I", "[LObject;", true}, {"[[LA;", "[LObject;", true}, {"[[[[J", "[LObject;", true}, {"[[[I", "[[LObject;", true}, {"[[[LObject;", "[[LObject;", true}, {"[[Lnone;", "[LObject;", true},
		{"[[I", "[I", false}, {"[[J", "[I", false}, {"[[LB;", "[LA;", false}, {"[[LB;", "[LB;", false}, {"[[LObject;", "[LA;", false}, {"[[[I", "[[I", false},
		{"[I", "[[I", false}, {"[LObject;", "[[LObject;", false}, {"[LObject;", "[[I", false}, {"[LB;", "[[LA;", false}, {"[[LB;", "[[[LObject;", false},
		{"I", "[I", false}, {"[I", "I", false}, {"J", "[J", false}, {"[J", "J", false}, {"I", "LObject;", false}, {"LObject;", "I", false}, {"J", "LObject;", false},
	} {
		stands(t, tree, of(t, x.a), of(t, x.b), x.want)
		a, b := of(t, x.a), of(t, x.b)
		a.At = 9
		stands(t, tree, a, b, x.want && a.K >= api.KRef)
	}
}

func TestAssignOddArrays(t *testing.T) { // P8.3: Elem of each kind, and Dims of any number
	array := func(dims, elem int, name string) api.Type {
		return api.Type{K: api.KArray, Dims: dims, Elem: elem, Name: name}
	}
	for _, elem := range numbers() {
		for _, other := range numbers() {
			same := elem == other
			stands(t, classes(), array(2, elem, "B"), array(2, other, "A"), same)
			stands(t, classes(), array(2, elem, "A"), array(2, other, "B"), same && elem != api.KRef)
			stands(t, classes(), array(2, elem, "Object"), array(1, other, "Object"), other == api.KRef)
			stands(t, classes(), array(2, elem, "A"), array(1, other, "A"), false)
			stands(t, classes(), array(1, elem, "Object"), array(2, other, "Object"), false)
		}
		stands(t, nil, array(2, elem, "B"), array(1, api.KRef, "Object"), true)
		stands(t, nil, array(math.MaxInt, elem, ""), array(math.MinInt, api.KRef, "Object"), true)
		stands(t, nil, array(math.MinInt, elem, ""), array(math.MaxInt, api.KRef, "Object"), false)
		stands(t, nil, array(0, elem, "x"), array(-1, api.KRef, "Object"), true)
	}
}

func TestAssignOfMany(t *testing.T) { // P8.3: types of all kinds, held against the chapter's sentences
	types := manyTypes()
	for _, tree := range append(trees(), odd()...) {
		for _, a := range types {
			for _, b := range types {
				if kind.Assign(tree, a, b) != assignByHand(tree, a, b) {
					stands(t, tree, a, b, assignByHand(tree, a, b))
				}
			}
		}
	}
}

func TestAssignGoesOn(t *testing.T) { // P8.4: of three, where Object has nothing above it
	var types []api.Type
	for _, x := range descriptors("A", "B", "C", "Object", "none") {
		types = append(types, x)
	}
	types = append(types, zero, api.Type{K: api.KNull}, api.Type{K: api.KNew, At: 3}, api.Type{K: api.KThis, Name: "A"})
	for _, tree := range trees() {
		takes := map[api.Type][]api.Type{}
		for _, a := range types {
			for _, b := range types {
				if kind.Assign(tree, a, b) {
					takes[a] = append(takes[a], b)
				}
			}
		}
		for a, l := range takes {
			for _, b := range l {
				for _, c := range takes[b] {
					if !slices.Contains(takes[a], c) {
						t.Errorf("in %v %#v stands for %#v, that for %#v, but the first not for the last", tree, a, b, c)
					}
				}
			}
		}
	}
}

func TestAssignInGreatTrees(t *testing.T) { // P8.3: names are asked in trees of all sizes
	chance := rand.New(rand.NewSource(11))
	for _, n := range []int{1, 30, 64, 65, 500} {
		tree := chain(n, "Object")
		for range 200 {
			a, b := tree[chance.Intn(n)].Name, tree[chance.Intn(n)].Super
			stands(t, tree, api.Type{K: api.KRef, Name: a}, api.Type{K: api.KRef, Name: b}, belowByHand(tree, a, b))
			stands(t, tree, api.Type{K: api.KArray, Dims: 3, Elem: api.KRef, Name: a}, api.Type{K: api.KArray, Dims: 3, Elem: api.KRef, Name: b}, belowByHand(tree, a, b))
		}
	}
}

func TestHolds(t *testing.T) { // P8.3: of arrays one dimension less, and of one dimension what Elem tells
	for s, x := range descriptors("A", "Object") {
		got, ok := kind.Holds(x)
		if x.K != api.KArray {
			if got != zero || ok {
				t.Errorf("Holds of %s: %#v, %v", s, got, ok)
			}
			continue
		}
		if want := of(t, s[1:]); got != want || !ok {
			t.Errorf("Holds of %s: %#v, %v; want %#v", s, got, ok, want)
		}
	}
}

func TestHoldsOfAny(t *testing.T) { // P8.3, P6: Dims, Elem, Name and At of any value; each kind that is no array's
	for _, k := range numbers() {
		for _, dims := range numbers() {
			for _, elem := range numbers() {
				for _, name := range []string{"", "A", "A;", ";[", long(300)} {
					for _, at := range []int{0, 5, -5} {
						x := api.Type{K: k, Name: name, Dims: dims, Elem: elem, At: at}
						want := zero
						switch {
						case k != api.KArray:
						case dims > 1:
							want = api.Type{K: api.KArray, Name: name, Dims: dims - 1, Elem: elem, At: at}
						default:
							want = api.Type{K: elem, Name: name}
						}
						if got, ok := kind.Holds(x); got != want || ok != (k == api.KArray) {
							t.Errorf("Holds of %#v: %#v, %v; want %#v", x, got, ok, want)
						}
					}
				}
			}
		}
	}
}
