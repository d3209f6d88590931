package kind_test

import (
	"math"
	"regexp"
	"slices"
	"strings"
	"testing"

	"understudy/api"
	"understudy/kind"
)

// What descriptors look like, but for how many bytes a name has, how many [ there are, and how many parameters. In a name bytes that are no right UTF-8 count as any others.
const fieldForm = `\[*(?:I|J|L[^.;\[/<>]+;)`

var (
	fieldRight  = regexp.MustCompile(`^` + fieldForm + `$`)
	fieldNext   = regexp.MustCompile(fieldForm)
	methodRight = regexp.MustCompile(`^\(((?:` + fieldForm + `)*)\)(` + fieldForm + `|V)$`)
)

// baseKinds are the kinds that the first letters tell.
var baseKinds = map[byte]int{'I': api.KInt, 'J': api.KLong, 'L': api.KRef, 'V': api.KVoid}

// zero is no type.
var zero api.Type

// fieldByHand answers what Field answers of s, as the chapter tells it.
func fieldByHand(s string) (api.Type, api.Errno) {
	if !fieldRight.MatchString(s) {
		return zero, api.ErrDesc
	}
	base := strings.TrimLeft(s, "[")
	dims, name := len(s)-len(base), ""
	if base[0] == 'L' {
		name = base[1 : len(base)-1]
	}
	if dims > api.MaxDims || len(name) > api.MaxName {
		return zero, api.ErrDesc
	}
	k := baseKinds[base[0]]
	if dims == 0 {
		return api.Type{K: k, Name: name}, api.OK
	}
	return api.Type{K: api.KArray, Dims: dims, Elem: k, Name: name}, api.OK
}

// methodByHand answers what Method answers of s, as the chapter tells it.
func methodByHand(s string) ([]api.Type, api.Type, api.Errno) {
	m := methodRight.FindStringSubmatch(s)
	if m == nil {
		return nil, zero, api.ErrDesc
	}
	var l []api.Type
	for _, p := range fieldNext.FindAllString(m[1], -1) {
		x, e := fieldByHand(p)
		if e != api.OK {
			return nil, zero, e
		}
		l = append(l, x)
	}
	if len(l) > api.MaxParams {
		return nil, zero, api.ErrDesc
	}
	if m[2] == "V" {
		return l, api.Type{K: api.KVoid}, api.OK
	}
	r, e := fieldByHand(m[2])
	if e != api.OK {
		return nil, zero, e
	}
	return l, r, api.OK
}

// descriptors are all of types with those names, and their types.
func descriptors(names ...string) map[string]api.Type {
	m := map[string]api.Type{"V": {K: api.KVoid}}
	bases := map[string]api.Type{"I": {K: api.KInt}, "J": {K: api.KLong}}
	for _, n := range names {
		bases["L"+n+";"] = api.Type{K: api.KRef, Name: n}
	}
	for s, x := range bases {
		m[s] = x
		for dims, opens := range []string{"", "[", "[[", "[[[", "[[[["} {
			if dims > 0 {
				m[opens+s] = api.Type{K: api.KArray, Dims: dims, Elem: x.K, Name: x.Name}
			}
		}
	}
	return m
}

// numbers are all kinds, and what is none on both sides.
func numbers() []int {
	l := []int{math.MinInt, math.MinInt32, -1 << 16, 1 << 8, 1<<8 + 1, 1<<8 + 4, 1 << 16, 1<<16 + 5, 1 << 32, 1<<32 + 1, 1<<32 + 4, math.MaxInt}
	for n := -3; n < 20; n++ {
		l = append(l, n)
	}
	return l
}

// badBytes are those that no name has.
const badBytes = ".;[/<>"

// spoilt answers names that are none: of no byte, too long, and with each byte that a name has not, at each end and in the middle.
func spoilt() []string {
	l := []string{"", long(api.MaxName + 1), long(api.MaxName + 2), long(2 * api.MaxName), long(1 << 16), strings.Repeat("é", api.MaxName/2) + "e"}
	for _, b := range badBytes {
		c := string(b)
		l = append(l, c, c+"A", "A"+c, "A"+c+"B", c+c, "<init"+c, long(api.MaxName-1)+c, c+long(api.MaxName-1), long(api.MaxName/2)+c+long(10))
	}
	return l
}

// goodNames answers names with all other bytes, of the shortest and the longest.
func goodNames() []string {
	l := []string{"A", "AB", "Object", long(api.MaxName - 1), long(api.MaxName), strings.Repeat("é", api.MaxName/2), "I", "J", "V", "L", "(", ")", "()V", "(I)", "LA", "\x00", "\xFF", "\xC0\x80", "\u00E9", "\U00010400", " ", "\n", "A\nB", "-", "a:b", "a,b", "$1", "\uFFFD", "日本"}
	for b := range 256 {
		if c := string([]byte{byte(b)}); !strings.Contains(badBytes, c) {
			l = append(l, c, c+"A", "A"+c, "A"+c+"B", c+c+c, c+long(api.MaxName-1), long(api.MaxName-1)+c)
		}
	}
	return l
}

// long answers a name of n bytes.
func long(n int) string { return strings.Repeat("Name", n/4+1)[:n] }

// reads asks for the type of the field's descriptor s: held against a reading by hand.
func reads(t *testing.T, s string) {
	t.Helper()
	want, e := fieldByHand(s)
	readsTo(t, s, want, e)
}

// readsTo asks for that answer, and of a right one that Text undoes it.
func readsTo(t *testing.T, s string, want api.Type, e api.Errno) {
	t.Helper()
	x, f := kind.Field(s)
	if x != want || f != e {
		t.Errorf("Field of %d bytes %.40q: %#v, %d; want %#v, %d", len(s), s, x, f, want, e)
	}
	if f == api.OK && kind.Text(x) != s {
		t.Errorf("Text of %.40q's type %#v: %.40q", s, x, kind.Text(x))
	}
}

// refuses asks that s is no field's descriptor.
func refuses(t *testing.T, s string) {
	t.Helper()
	readsTo(t, s, zero, api.ErrDesc)
}

// readsMethod asks for the types of the method's descriptor s: held against a reading by hand.
func readsMethod(t *testing.T, s string) {
	t.Helper()
	l, r, e := methodByHand(s)
	readsMethodTo(t, s, l, r, e)
}

// readsMethodTo asks for that answer.
func readsMethodTo(t *testing.T, s string, l []api.Type, r api.Type, e api.Errno) {
	t.Helper()
	m, q, f := kind.Method(s)
	if !slices.Equal(m, l) || q != r || f != e {
		t.Errorf("Method of %d bytes %.60q: %#v, %#v, %d; want %#v, %#v, %d", len(s), s, m, q, f, l, r, e)
	}
}

// refusesMethod asks that s is no method's descriptor.
func refusesMethod(t *testing.T, s string) {
	t.Helper()
	readsMethodTo(t, s, nil, zero, api.ErrDesc)
}

// tells asks for the descriptor of x.
func tells(t *testing.T, x api.Type, want string) {
	t.Helper()
	if s := kind.Text(x); s != want {
		t.Errorf("Text of %#v: %.40q; want %.40q", x, s, want)
	}
}

// of answers the type of a right descriptor.
func of(t *testing.T, s string) api.Type {
	t.Helper()
	x, e := fieldByHand(s)
	if e != api.OK {
		t.Fatalf("%q is no descriptor", s)
	}
	return x
}

// eachText calls f with each text of at most n bytes, each of which is one of few.
func eachText(few string, n int, f func(string)) {
	var grow func(string)
	grow = func(s string) {
		f(s)
		if len(s) == n {
			return
		}
		for i := range len(few) {
			grow(s + few[i:i+1])
		}
	}
	grow("")
}

// belowByHand answers what Below answers, as the chapter tells it: whether b is among all classes that a is below.
func belowByHand(tree []kind.Pair, a, b string) bool {
	above := []string{a}
	for i := 0; i < len(above); i++ {
		n := slices.IndexFunc(tree, func(p kind.Pair) bool { return p.Name == above[i] })
		if n >= 0 && !slices.Contains(above, tree[n].Super) {
			above = append(above, tree[n].Super)
		}
	}
	return slices.Contains(above, b)
}

// assignByHand answers what Assign answers, as the chapter tells it, sentence by sentence.
func assignByHand(tree []kind.Pair, a, b api.Type) bool {
	isClass := func(x api.Type) bool { return x.K == api.KRef }
	isArray := func(x api.Type) bool { return x.K == api.KArray }
	if b.K == api.KTop || a == b {
		return true
	}
	if a.K == api.KNull {
		return isClass(b) || isArray(b) || b.K == api.KNull
	}
	if isClass(a) && isClass(b) {
		return belowByHand(tree, a.Name, b.Name)
	}
	if isArray(a) && isClass(b) {
		return b.Name == "Object"
	}
	if isArray(a) && isArray(b) && a.Dims == b.Dims {
		return a.Elem == b.Elem && (a.Elem != api.KRef || belowByHand(tree, a.Name, b.Name))
	}
	if isArray(a) && isArray(b) && a.Dims > b.Dims {
		return b.Elem == api.KRef && b.Name == "Object"
	}
	return false
}

// is asks whether a is below b, and that the tree stays as it was.
func is(t *testing.T, tree []kind.Pair, a, b string, want bool) {
	t.Helper()
	before := slices.Clone(tree)
	if got := kind.Below(tree, a, b); got != want {
		t.Errorf("Below(%.200v, %.40q, %.40q): %v", tree, a, b, got)
	}
	if !slices.Equal(tree, before) {
		t.Errorf("Below changed the tree %.200v into %.200v", before, tree)
	}
}

// stands asks whether a may stand for b, and that the tree stays as it was.
func stands(t *testing.T, tree []kind.Pair, a, b api.Type, want bool) {
	t.Helper()
	before := slices.Clone(tree)
	if got := kind.Assign(tree, a, b); got != want {
		t.Errorf("Assign(%.200v, %#v, %#v): %v", tree, a, b, got)
	}
	if !slices.Equal(tree, before) {
		t.Errorf("Assign changed the tree %.200v into %.200v", before, tree)
	}
}

// classes is a tree of some classes.
func classes() []kind.Pair {
	return []kind.Pair{{Name: "Object"}, {Name: "A", Super: "Object"}, {Name: "B", Super: "A"}, {Name: "C", Super: "B"}, {Name: "D", Super: "A"}, {Name: "E", Super: "Far"}}
}
