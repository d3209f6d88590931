package maps_test

import (
	"math"
	"math/rand"
	"strings"
	"testing"

	"understudy/api"
	"understudy/maps"
)

// tells asks that Type answers just that.
func tells(t *testing.T, name string, want api.Type, is bool) {
	t.Helper()
	for range 2 {
		if x, got := maps.Type(name); x != want || got != is {
			t.Errorf("of %d bytes %.40q: %#v, %v; want %#v, %v", len(name), name, x, got, want, is)
		}
	}
}

// tellsAsByHand asks that Type answers as the chapter tells it.
func tellsAsByHand(t *testing.T, name string) {
	t.Helper()
	x, is := typeByHand(name)
	if !is {
		x = api.Type{}
	}
	tells(t, name, x, is)
}

func TestTypeOfTexts(t *testing.T) { // P10.3: names and arrays' descriptors, right ones and wrong ones
	for s, x := range rightTexts() {
		tells(t, s, x, true)
	}
	for _, s := range wrongTexts() {
		tells(t, s, api.Type{}, false)
	}
}

func TestTypeOfNames(t *testing.T) { // P10.3: of no byte, with each of the bytes, of MaxName bytes and one more
	tells(t, "", api.Type{}, false)
	for b := range 256 {
		c := string([]byte{byte(b)})
		right := !strings.Contains(".;[/<>", c)
		for _, s := range []string{c, c + "A", "A" + c, "A" + c + "B", c + c, long(api.MaxName-1) + c, c + long(api.MaxName-1)} {
			if right {
				tells(t, s, class(s), true)
				tells(t, "[L"+s+";", array(1, api.KRef, s), true)
				tells(t, "[[[[L"+s+";", array(4, api.KRef, s), true)
			} else {
				tellsAsByHand(t, s)
				tells(t, "[L"+s+";", api.Type{}, false)
			}
			tells(t, s+long(api.MaxName), api.Type{}, false)
		}
		if !right && c != "[" {
			tells(t, c, api.Type{}, false)
			tells(t, c+"I", api.Type{}, false)
		}
	}
	for _, n := range []int{1, 2, 255, 256} {
		tells(t, long(n), class(long(n)), true)
		tells(t, "[L"+long(n)+";", array(1, api.KRef, long(n)), true)
	}
	for _, n := range []int{257, 258, 300, 512, 1 << 16, 1 << 20} {
		tells(t, long(n), api.Type{}, false)
		tells(t, "[L"+long(n)+";", api.Type{}, false)
		tells(t, strings.Repeat("[", n), api.Type{}, false)
		tells(t, strings.Repeat("[", n)+"I", api.Type{}, false)
	}
}

func TestTypeOfDescriptors(t *testing.T) { // P10.3: arrays' ones of each number of dimensions, and others'
	for n := 1; n < 9; n++ {
		opens := strings.Repeat("[", n)
		for s, x := range map[string]api.Type{"I": num, "J": wide, "LA;": classA, "LObject;": object} {
			if n > api.MaxDims {
				tells(t, opens+s, api.Type{}, false)
				continue
			}
			tells(t, opens+s, array(n, x.K, x.Name), true)
			for _, behind := range []string{"I", ";", "[", " ", "\x00", "LA;"} {
				tells(t, opens+s+behind, api.Type{}, false)
			}
		}
		for _, s := range []string{"", "V", "A", "L", "L;", "LA", "Z", "i", "(I)V", "()[I"} {
			tells(t, opens+s, api.Type{}, false)
		}
	}
	for _, s := range []string{"I", "J", "V", "L", "()V", "(IJ)V", "()", "LA", "Z"} { // classes may have these names
		tells(t, s, class(s), true)
	}
	for _, s := range []string{"LA;", "LObject;", "(LA;)V", "([I)V", "()[I", "()LA;"} {
		tells(t, s, api.Type{}, false)
	}
}

func TestTypeOfSmallTexts(t *testing.T) { // P10.3, P1: all texts of few bytes, and longer ones by chance
	var grow func(s string, n int)
	grow = func(s string, n int) {
		tellsAsByHand(t, s)
		for i := 0; n > 0 && i < 9; i++ {
			grow(s+"IJLA;[.<\xFF"[i:i+1], n-1)
		}
	}
	grow("", 5)
	chance := rand.New(rand.NewSource(4))
	parts := []string{"[", "[[", "L", ";", "I", "J", "A", "[L", "Ob;", long(250), long(3), "/", "\n", "\u00E9"}
	for range 20000 {
		var s strings.Builder
		for range chance.Intn(7) {
			s.WriteString(parts[chance.Intn(len(parts))])
		}
		tellsAsByHand(t, s.String())
	}
}

// finds asks for the place of the first map at n, and that the maps stay as they were.
func finds(t *testing.T, l []api.Map, n, want int) {
	t.Helper()
	before := clone(l)
	if got := maps.Find(l, n); got != want {
		t.Errorf("Find(%s, %d): %d; want %d", show(l), n, got, want)
	}
	if !same(l, before) {
		t.Errorf("changed %s", show(before))
	}
}

func TestFind(t *testing.T) { // P10.3, P3, P6: the first, the last, one between, none, a place twice
	l := at(0, 3, 5, 258, api.MaxCode)
	for n, m := range l {
		finds(t, l, m.At, n)
		finds(t, l[n:], m.At, 0)
		finds(t, l[:n], m.At, -1)
		finds(t, l[n+1:], m.At, -1)
	}
	for _, n := range []int{-1, 1, 2, 4, 6, 257, 259, api.MaxCode - 1, api.MaxCode + 1, math.MinInt, math.MaxInt, 1<<32 + 3, 1<<16 + 5} {
		finds(t, l, n, -1)
		finds(t, nil, n, -1)
		finds(t, []api.Map{}, n, -1)
	}
	finds(t, nil, 0, -1)
	finds(t, at(7, 5, 5, 7, 5), 5, 1)
	finds(t, at(7, 5, 5, 7, 5), 7, 0)
	finds(t, at(1, 2, 9, 9), 9, 2)
	for _, n := range []int{-1, -8, math.MinInt, math.MaxInt, api.MaxCode + 1} { // whatever the places are
		finds(t, at(9, n, 4, n), n, 1)
		finds(t, at(9, n, 4, n), 4, 2)
	}
	_, m := whole() // by its place alone
	finds(t, m, 263, 2)
	finds(t, m, 258, -1)
	finds(t, m, 7, -1)
}
