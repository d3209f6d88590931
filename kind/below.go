package kind

import "slices"

// fewPairs is how many pairs are gone through sooner than a map of them is made: no program has more classes.
const fewPairs = 64

// asking makes what answers the super of the class with that name, and whether the tree has such a class.
func asking(tree []Pair) func(name string) (string, bool) {
	place := placing(tree)
	return func(name string) (string, bool) {
		n := place(name)
		if n < 0 {
			return "", false
		}
		return tree[n].Super, true
	}
}

// placing makes what answers the place of the first pair with that name in the tree, or -1. In a great tree going through all pairs at each step would take too long.
func placing(tree []Pair) func(name string) int {
	if len(tree) <= fewPairs {
		return func(name string) int {
			return slices.IndexFunc(tree, func(p Pair) bool { return p.Name == name })
		}
	}
	places := make(map[string]int, len(tree))
	for n, p := range slices.Backward(tree) { // so that the first one stays
		places[p.Name] = n
	}
	return func(name string) int {
		n, isThere := places[name]
		if !isThere {
			return -1
		}
		return n
	}
}

// Below tells whether the class a is below the class b, which it is itself too.
func Below(tree []Pair, a string, b string) bool {
	if a == b {
		return true
	}
	superOf := asking(tree)
	for range len(tree) { // supers may go round
		super, isThere := superOf(a)
		switch {
		case !isThere:
			return false
		case super == b:
			return true
		}
		a = super
	}
	return false
}
