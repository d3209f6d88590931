package pool_test

import (
	"math"
	"slices"
	"testing"

	"understudy/api"
	"understudy/pool"
)

// tells are what can be told of a place.
type tells struct {
	text, class      string
	isText, isClass  bool
	owner, name, typ string
	isRef            bool
}

// asks holds what is told of the place i of p against what must be, and asks that p stays as it is.
func asks(t *testing.T, p []api.Const, i int, want tells) {
	t.Helper()
	before := slices.Clone(p)
	var got tells
	got.text, got.isText = pool.Text(p, i)
	got.class, got.isClass = pool.Class(p, i)
	got.owner, got.name, got.typ, got.isRef = pool.Ref(p, i)
	if got != want {
		t.Errorf("of the place %d of %s: %+v; want %+v", i, show(p), got, want)
	}
	if !slices.Equal(p, before) {
		t.Errorf("what was handed in is %s; was %s", show(p), show(before))
	}
}

// noPlaces answers numbers that are no place of a pool of n.
func noPlaces(n int) []int {
	return []int{0, -1, -2, -n, n, n + 1, 1 << 16, 1 << 32, 1<<32 + 1, math.MinInt, math.MinInt + 1, math.MaxInt}
}

func TestTells(t *testing.T) { // P4.2
	p := sample()
	wants := map[int]tells{
		1: {owner: "java/lang/Object", name: "<init>", typ: "()V", isRef: true},
		5: {class: "java/lang/Object", isClass: true},
		7: {owner: "java/lang/Object", name: "gr\u00F6\u00DFe\x00\U00010400", typ: "J", isRef: true},
	}
	for i, c := range p {
		if c.Tag == api.CUtf8 {
			wants[i] = tells{text: c.Text, isText: true} // the empty one too
		}
	}
	for i := range p {
		asks(t, p, i, wants[i])
	}
	for _, i := range noPlaces(len(p)) {
		asks(t, p, i, tells{})
	}
}

func TestTellsOfNoPool(t *testing.T) { // P4.2, P1, P3
	for _, p := range [][]api.Const{nil, {}, {{}}, sample()[:0]} {
		for _, i := range append(noPlaces(len(p)), 1, 2) {
			asks(t, p, i, tells{})
		}
	}
}

func TestTellsOfPlaceZero(t *testing.T) { // P4.2: a place leads from 1 on, though a wrong pool has something at 0
	p := []api.Const{{Tag: api.CUtf8, Text: "a"}, {Tag: api.CClass, A: 0}, {Tag: api.CName, A: 0, B: 3}, {Tag: api.CUtf8, Text: "b"}, {Tag: api.CClass, A: 3}, {Tag: api.CField, A: 4, B: 2}, {Tag: api.CField, A: 1, B: 7}, {Tag: api.CName, A: 3, B: 3}}
	for _, i := range []int{0, 1, 2, 5, 6} {
		asks(t, p, i, tells{})
	}
	p[0] = api.Const{Tag: api.CClass, A: 3}
	asks(t, p, 0, tells{})
	p[0] = api.Const{Tag: api.CMethod, A: 4, B: 7}
	asks(t, p, 0, tells{})
	p[1] = p[0]
	asks(t, p, 1, tells{owner: "b", name: "b", typ: "b", isRef: true})
}

func TestTellsOfWrongPools(t *testing.T) { // P4.2, P1, P6: a place that leads elsewhere, in each tag
	for _, tag := range tags {
		first, second := wanted(tag)
		if first == 0 {
			continue
		}
		p, i := with(api.Const{Tag: tag})
		wrong := append(noPlaces(len(p)), i)
		for _, other := range tags {
			wrong = append(wrong, where(other))
		}
		isFirst := func(at int) bool { return at >= 1 && at < i && p[at].Tag == first }
		isSecond := func(at int) bool { return at >= 1 && at < i && p[at].Tag == second }
		for _, a := range wrong {
			for _, b := range wrong {
				p[i].A, p[i].B = a, b
				var want tells
				switch {
				case tag == api.CClass && isFirst(a): // B is none of it, and not looked at
					want = tells{class: p[a].Text, isClass: true}
				case (tag == api.CField || tag == api.CMethod) && isFirst(a) && isSecond(b):
					want = tells{owner: "java/lang/Object", name: "<init>", typ: "()V", isRef: true}
				}
				asks(t, p, i, want)
			}
		}
	}
}

func TestTellsOfWrongWays(t *testing.T) { // P4.2: what a reference leads to leads elsewhere itself
	right := []api.Const{{}, {Tag: api.CUtf8, Text: "c"}, {Tag: api.CUtf8, Text: "n"}, {Tag: api.CUtf8, Text: "d"}, {Tag: api.CClass, A: 1}, {Tag: api.CName, A: 2, B: 3}, {Tag: api.CMethod, A: 4, B: 5}, {Tag: api.CField, A: 4, B: 5}}
	for _, at := range []int{6, 7} {
		asks(t, right, at, tells{owner: "c", name: "n", typ: "d", isRef: true})
		for _, bad := range append(noPlaces(len(right)), 4, 5, 6, 7) {
			p := slices.Clone(right)
			p[4].A = bad
			asks(t, p, at, tells{})
			asks(t, p, 4, tells{})
			p = slices.Clone(right)
			p[5].A = bad
			asks(t, p, at, tells{})
			p = slices.Clone(right)
			p[5].B = bad
			asks(t, p, at, tells{})
		}
	}
}

func TestTellsOfAnyPool(t *testing.T) { // P4.2, P1: tags that are none, numbers at their ends, more places than there may be
	for _, tag := range []int{math.MinInt, -1, 0, 2, 4, 6, 8, 11, 13, 255, 256 + api.CUtf8, math.MaxInt} {
		p, i := with(api.Const{Tag: tag, Text: "a", N: 1, A: 5, B: 4})
		asks(t, p, i, tells{})
	}
	p := texts(2000)
	p[1999] = api.Const{Tag: api.CMethod, A: 1998, B: 1997}
	p[1998] = api.Const{Tag: api.CClass, A: 1996}
	p[1997] = api.Const{Tag: api.CName, A: 1996, B: 1995}
	asks(t, p, 1999, tells{owner: p[1996].Text, name: p[1996].Text, typ: p[1995].Text, isRef: true})
	asks(t, p, 1998, tells{class: p[1996].Text, isClass: true})
	asks(t, p, 1996, tells{text: p[1996].Text, isText: true})
	asks(t, []api.Const{{}, {Tag: api.CUtf8, Text: "\xFF"}}, 1, tells{text: "\xFF", isText: true}) // no right text, but the one there
	asks(t, []api.Const{{}, {Tag: 99}, {Tag: api.CUtf8, Text: "a"}}, 2, tells{text: "a", isText: true})
	asks(t, []api.Const{{}, {Tag: api.CClass, A: 1}}, 1, tells{}) // to itself
	asks(t, []api.Const{{}, {Tag: api.CClass, A: 2}, {Tag: api.CClass, A: 1}}, 1, tells{})
	asks(t, []api.Const{{}, {Tag: api.CField, A: 1, B: 1}}, 1, tells{})
}
