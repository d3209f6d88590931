package kind_test

import (
	"math/rand"
	"strconv"
	"testing"

	"understudy/kind"
)

func TestBelowItself(t *testing.T) { // P8.2, P3: in the tree, out of it, and in an empty one
	for _, tree := range [][]kind.Pair{nil, {}, {{}}, classes(), {{Name: "A", Super: "A"}}} {
		for _, n := range []string{"", "A", "B", "E", "Object", "Far", "none", "\xFF", long(1 << 16)} {
			is(t, tree, n, n, true)
		}
	}
	for _, tree := range [][]kind.Pair{nil, {}} {
		is(t, tree, "A", "B", false)
		is(t, tree, "A", "Object", false)
		is(t, tree, "A", "", false)
		is(t, tree, "", "A", false)
	}
}

func TestBelowSupers(t *testing.T) { // P8.2: what a super is below, whatever the order of the pairs is
	up := classes()
	down := classes()
	for i := range down {
		down[i] = up[len(up)-1-i]
	}
	for _, tree := range [][]kind.Pair{up, down} {
		for a, above := range map[string][]string{"Object": {""}, "A": {"Object", ""}, "B": {"A", "Object", ""}, "C": {"B", "A", "Object", ""}, "D": {"A", "Object", ""}, "E": {"Far"}, "Far": nil, "none": nil, "": nil} {
			for _, b := range []string{"", "A", "B", "C", "D", "E", "Far", "Object", "none", "a", "object"} {
				want := a == b
				for _, s := range above {
					want = want || b == s
				}
				is(t, tree, a, b, want)
			}
		}
	}
}

func TestBelowOut(t *testing.T) { // P8.2: a super that is not in the tree is above still, and nothing goes on from it
	tree := []kind.Pair{{Name: "A", Super: "B"}}
	is(t, tree, "A", "B", true)
	is(t, tree, "B", "A", false)
	is(t, tree, "A", "", false)
	is(t, tree, "A", "C", false)
	tree = []kind.Pair{{Name: "A", Super: "B"}, {Name: "C", Super: "D"}}
	is(t, tree, "A", "D", false)
	is(t, tree, "C", "D", true)
	tree = append(tree, kind.Pair{Name: "B", Super: "C"}) // as many steps as there are pairs
	is(t, tree, "A", "D", true)
}

func TestBelowEmpty(t *testing.T) { // P8.2: an empty super is gone on from as any other name
	tree := []kind.Pair{{Name: "Object"}, {Name: "A", Super: "Object"}}
	is(t, tree, "Object", "", true)
	is(t, tree, "A", "", true)
	is(t, tree, "", "Object", false)
	is(t, tree, "none", "", false)
	tree = append(tree, kind.Pair{Super: "Top"})
	is(t, tree, "", "Top", true)
	is(t, tree, "Object", "Top", true)
	is(t, tree, "A", "Top", true)
	is(t, tree, "Top", "", false)
	is(t, []kind.Pair{{}, {Super: "Top"}}, "", "Top", false)
	is(t, []kind.Pair{{Super: "Top"}, {}}, "", "Top", true)
}

func TestBelowFirstCounts(t *testing.T) { // P8.2: of several pairs with a name the first one
	tree := []kind.Pair{{Name: "A", Super: "B"}, {Name: "A", Super: "C"}, {Name: "B", Super: "D"}, {Name: "B", Super: "A"}, {Name: "A", Super: "E"}}
	for _, b := range []string{"A", "B", "D"} {
		is(t, tree, "A", b, true)
	}
	for _, b := range []string{"C", "E", ""} {
		is(t, tree, "A", b, false)
	}
	is(t, tree, "B", "A", false)
	is(t, []kind.Pair{{Name: "A", Super: "A"}, {Name: "A", Super: "B"}}, "A", "B", false)
	is(t, []kind.Pair{{Name: "A", Super: "B"}, {Name: "A", Super: "A"}}, "A", "B", true)
}

func TestBelowRound(t *testing.T) { // P8.2, P1: trees that go round
	tree := []kind.Pair{{Name: "A", Super: "B"}, {Name: "B", Super: "C"}, {Name: "C", Super: "A"}, {Name: "D", Super: "B"}}
	for _, a := range []string{"A", "B", "C", "D"} {
		for _, b := range []string{"A", "B", "C"} {
			is(t, tree, a, b, true)
		}
		is(t, tree, a, "D", a == "D")
		is(t, tree, a, "none", false)
		is(t, tree, a, "", false)
	}
	is(t, []kind.Pair{{Name: "A", Super: "A"}}, "A", "B", false)
	is(t, []kind.Pair{{}}, "", "A", false)
	is(t, []kind.Pair{{}, {}}, "A", "", false)
}

func TestBelowSmallTrees(t *testing.T) { // P8.2: all trees of few pairs
	names := []string{"", "A", "B", "C"}
	var grow func(tree []kind.Pair, n int)
	grow = func(tree []kind.Pair, n int) {
		for _, a := range names {
			for _, b := range names {
				is(t, tree, a, b, belowByHand(tree, a, b))
			}
		}
		if n == 0 {
			return
		}
		for _, a := range names {
			for _, b := range names {
				grow(append(tree[:len(tree):len(tree)], kind.Pair{Name: a, Super: b}), n-1)
			}
		}
	}
	grow(nil, 3)
}

// chain answers a tree of n classes, each of which is below the next one, and the last one below the class end.
func chain(n int, end string) []kind.Pair {
	tree := make([]kind.Pair, n)
	for i := range tree {
		tree[i] = kind.Pair{Name: "c" + strconv.Itoa(i), Super: "c" + strconv.Itoa(i+1)}
	}
	tree[n-1].Super = end
	return tree
}

func TestBelowChains(t *testing.T) { // P8.2, P1: long ways up, open and round, in both orders, with others of the same names behind
	for _, n := range []int{1, 2, 28, 29, 63, 64, 65, 66, 127, 128, 200} {
		for _, end := range []string{"end", "", "c0", "c" + strconv.Itoa(n/2), "c" + strconv.Itoa(n-1)} {
			tree := chain(n, end)
			last := "c" + strconv.Itoa(n-1)
			is(t, tree, "c0", last, true)
			is(t, tree, "c0", end, true)
			is(t, tree, "c0", "none", false)
			is(t, tree, last, "c0", n == 1 || end == "c0")
			is(t, tree, "none", end, false)
			turned := make([]kind.Pair, n)
			for i, p := range tree {
				turned[n-1-i] = p
			}
			is(t, turned, "c0", last, true)
			is(t, turned, "c0", end, true)
			is(t, turned, "c0", "none", false)
			more := append(chain(n, end), chain(n, "late")...)
			is(t, more, "c0", end, true)
			is(t, more, "c0", "late", false)
		}
	}
	for _, end := range []string{"end", "c0", "c7"} { // so many that going through all at each step would take long
		tree := chain(1<<19, end)
		is(t, tree, "c0", "c524287", true)
		is(t, tree, "c0", end, true)
		is(t, tree, "c0", "none", false)
	}
}

func TestBelowByChance(t *testing.T) { // P8.2: trees of all sizes
	chance := rand.New(rand.NewSource(10))
	for range 20000 {
		names := 1 + chance.Intn(150)
		name := func() string {
			n := chance.Intn(names + 1)
			if n == 0 {
				return ""
			}
			return strconv.Itoa(n)
		}
		tree := make([]kind.Pair, chance.Intn(150))
		for i := range tree {
			tree[i] = kind.Pair{Name: name(), Super: name()}
		}
		for range 5 {
			a, b := name(), name()
			is(t, tree, a, b, belowByHand(tree, a, b))
		}
	}
}

func TestBelowKeepsNothing(t *testing.T) { // P4, P5: only the tree that is handed in counts
	for _, n := range []int{3, 100} {
		tree := chain(n, "end")
		is(t, tree, "c0", "end", true)
		tree[1].Super = "other"
		is(t, tree, "c0", "end", false)
		is(t, tree, "c0", "other", true)
		is(t, nil, "c0", "other", false)
		is(t, tree[:1:1], "c0", "other", false)
		is(t, tree[:2], "c0", "other", true)
	}
}
