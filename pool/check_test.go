package pool_test

import (
	"math"
	"slices"
	"strings"
	"testing"

	"understudy/api"
	"understudy/pool"
)

func TestCheckSample(t *testing.T) { // P4.1
	goesRound(t, sample())
	for _, c := range sample()[1:] {
		p, _ := with(c)
		goesRound(t, p)
	}
	if e := checkByHand(sample()); e != api.OK {
		t.Errorf("by hand: %d", e)
	}
}

func TestCheckNoPool(t *testing.T) { // P4.1, P3
	refused(t, nil, api.ErrPool)
	refused(t, []api.Const{}, api.ErrPool)
	refused(t, make([]api.Const, 0, 5), api.ErrPool)
}

func TestCheckOnePlace(t *testing.T) { // P4.1: the least pool
	goesRound(t, []api.Const{{}})
	goesRound(t, make([]api.Const, 1, 9))
}

func TestCheckPlaceZero(t *testing.T) { // P4.1
	for _, c := range []api.Const{{Tag: -1}, {Text: "a"}, {Text: "\x00"}, {N: 1}, {N: -1}, {N: 1 << 32}, {N: math.MinInt64}, {A: 1}, {A: -1}, {B: 1}, {B: -1}, {Text: "\xFF"}} {
		refused(t, []api.Const{c}, api.ErrPool)
		refused(t, append([]api.Const{c}, sample()[1:]...), api.ErrPool)
	}
	for _, c := range sample()[1:] { // right anywhere else
		refused(t, append([]api.Const{c}, sample()[1:]...), api.ErrPool)
	}
	for _, tag := range tags {
		refused(t, []api.Const{{Tag: tag}}, api.ErrPool)
	}
}

func TestCheckCount(t *testing.T) { // P4.1, P2, the limit MaxPool
	for _, n := range []int{2, 100, api.MaxPool - 1, api.MaxPool} {
		goesRound(t, texts(n))
	}
	for _, n := range []int{api.MaxPool + 1, api.MaxPool + 2, 2 * api.MaxPool, 1 << 16, 1<<16 + 1, 1<<16 + 5} {
		refused(t, texts(n), api.ErrLong)
		refused(t, make([]api.Const, n), api.ErrLong) // no right tag as well: ErrLong is ahead
		p := texts(n)
		p[0].Tag = api.CUtf8
		p[1].Text = "\xFF"
		refused(t, p, api.ErrLong)
	}
	p := texts(api.MaxPool)
	p[api.MaxPool-1] = api.Const{Tag: api.CClass, A: api.MaxPool - 2} // the last place counts
	p[1] = api.Const{Tag: api.CClass, A: api.MaxPool - 2}
	goesRound(t, p)
	p[1].A = api.MaxPool
	refused(t, p, api.ErrPool)
	p = texts(api.MaxPool)
	p[api.MaxPool-1].Tag = 0
	refused(t, p, api.ErrPool)
}

func TestCheckTags(t *testing.T) { // P4.1
	others := []int{math.MinInt, math.MaxInt, math.MinInt32, 1 << 32, 1<<32 + 1, 1 << 16, 1<<16 + 7, 1<<8 + 1, 1<<8 + 12}
	for tag := -300; tag <= 300; tag++ {
		if !slices.Contains(tags, tag) {
			others = append(others, tag)
		}
	}
	for _, tag := range others {
		for _, c := range []api.Const{{Tag: tag}, {Tag: tag, Text: "a"}, {Tag: tag, N: 1}, {Tag: tag, A: 2}, {Tag: tag, A: 5, B: 4}, {Tag: tag, A: 2, B: 2}} {
			p, _ := with(c)
			refused(t, p, api.ErrPool)
		}
	}
	for _, tag := range tags { // of the same fields others are right under each tag
		for _, c := range []api.Const{{Tag: tag}, {Tag: tag, Text: "a"}, {Tag: tag, N: 1}, {Tag: tag, A: 2}, {Tag: tag, A: 5, B: 4}, {Tag: tag, A: 2, B: 2}} {
			p, _ := with(c)
			if want := checkByHand(p); want != api.OK {
				refused(t, p, want)
			} else {
				goesRound(t, p)
			}
		}
	}
}

func TestCheckFields(t *testing.T) { // P4.1: what a tag does not have
	texts := []string{"a", "\x00", "\xFF", strings.Repeat("a", 300)}
	numbers := []int64{1, -1, 1 << 31, 1 << 32, -1 << 32, 1 << 62, math.MinInt64, math.MaxInt64}
	places := []int{1, 2, 3, 4, 5, -1, 1 << 16, 1 << 32, math.MinInt, math.MaxInt}
	for i, c := range sample() {
		if i == 0 {
			continue
		}
		ask := func(c api.Const) {
			t.Helper()
			p := sample()
			p[i] = c
			refused(t, p, api.ErrPool)
		}
		for _, s := range texts {
			if d := c; c.Tag != api.CUtf8 {
				d.Text = s
				ask(d)
			}
		}
		for _, n := range numbers {
			if d := c; c.Tag != api.CInt && c.Tag != api.CLong {
				d.N = n
				ask(d)
			}
		}
		for _, at := range places {
			d := c
			d.B = at
			if c.Tag == api.CUtf8 || c.Tag == api.CInt || c.Tag == api.CLong || c.Tag == api.CClass {
				ask(d)
			}
			d = c
			d.A = at
			if c.Tag == api.CUtf8 || c.Tag == api.CInt || c.Tag == api.CLong {
				ask(d)
			}
		}
	}
}

func TestCheckNumbers(t *testing.T) { // P4.1, P6
	both := []int64{0, 1, -1, 127, -128, 255, 1 << 16, math.MaxInt32 - 1, math.MaxInt32, math.MinInt32, math.MinInt32 + 1}
	long := []int64{math.MaxInt32 + 1, math.MinInt32 - 1, math.MaxUint32, 1 << 32, 1<<32 + 1, -1 << 32, math.MaxInt64, math.MaxInt64 - 1, math.MinInt64, math.MinInt64 + 1}
	for _, n := range both {
		goesRound(t, []api.Const{{}, {Tag: api.CInt, N: n}})
		goesRound(t, []api.Const{{}, {Tag: api.CLong, N: n}})
	}
	for _, n := range long {
		refused(t, []api.Const{{}, {Tag: api.CInt, N: n}}, api.ErrPool)
		goesRound(t, []api.Const{{}, {Tag: api.CLong, N: n}})
	}
	goesRound(t, []api.Const{{}, {Tag: api.CLong, N: 1}, {Tag: api.CLong, N: 2}, {Tag: api.CUtf8}}) // a long takes one place
}

// wrongTexts are no right UTF-8.
var wrongTexts = []string{"\xFF", "a\x80", "\xC0\x80", "\xC3", "\xED\xA0\x81", "\xED\xA0\x81\xED\xB0\x80", "\xF4\x90\x80\x80", "\xE0\x80\x80"}

func TestCheckTexts(t *testing.T) { // P4.1, the limit MaxName
	for _, x := range []struct {
		s    string
		size int // of its bytes by chapter 2
	}{
		{"a", 1}, {"\x00", 2}, {"\u00E9", 2}, {"\u20AC", 3}, {"\uFFFD", 3}, {"\U00010400", 6}, {"\U0010FFFF", 6},
	} {
		for _, n := range []int{1, x.size, api.MaxName - 1, api.MaxName} {
			s := strings.Repeat(x.s, n/x.size) + strings.Repeat("z", n%x.size)
			goesRound(t, []api.Const{{}, {Tag: api.CUtf8, Text: s}})
		}
		for _, n := range []int{api.MaxName + 1, api.MaxName + x.size, 2 * api.MaxName, 1 << 16, 1<<16 + 1, 1<<16 + 256} {
			s := strings.Repeat(x.s, n/x.size) + strings.Repeat("z", n%x.size)
			refused(t, []api.Const{{}, {Tag: api.CUtf8, Text: s}}, api.ErrUtf)
		}
	}
	goesRound(t, []api.Const{{}, {Tag: api.CUtf8}})
	for _, s := range wrongTexts {
		for _, s := range []string{s, s + "a", "a" + s, strings.Repeat(s, 300)} {
			refused(t, []api.Const{{}, {Tag: api.CUtf8, Text: s}}, api.ErrUtf)
			p, i := with(api.Const{Tag: api.CUtf8, Text: s})
			refused(t, p, api.ErrUtf)
			p[3] = api.Const{Tag: api.CClass, A: i} // it leads to a text, though to a wrong one: the text's place is told
			p[4].B = 2
			refused(t, p, api.ErrUtf)
		}
	}
}

// wanted are the tags that the places of a tag must lead to: 0 where it has none.
func wanted(tag int) (int, int) {
	switch tag {
	case api.CClass:
		return api.CUtf8, 0
	case api.CName:
		return api.CUtf8, api.CUtf8
	case api.CField, api.CMethod:
		return api.CClass, api.CName
	}
	return 0, 0
}

func TestCheckLeads(t *testing.T) { // P4.1, P6
	for _, tag := range tags {
		first, second := wanted(tag)
		if first == 0 {
			continue
		}
		right := api.Const{Tag: tag, A: where(first), B: max(0, where(second))}
		if second == 0 {
			right.B = 0
		}
		p, self := with(right)
		goesRound(t, p)
		for _, at := range []int{0, self, -1, -2, math.MinInt, len(p), len(p) + 1, 1 << 16, 1<<16 + where(first), 1<<32 + where(first), math.MaxInt} {
			p[self] = right
			p[self].A = at
			refused(t, p, api.ErrPool)
			p[self] = right
			p[self].B = at
			if second != 0 || at != 0 {
				refused(t, p, api.ErrPool)
			}
		}
		for _, other := range tags {
			p[self] = right
			p[self].A = where(other)
			if other == first {
				goesRound(t, p)
			} else {
				refused(t, p, api.ErrPool)
			}
			p[self] = right
			p[self].B = where(other)
			if other == second {
				goesRound(t, p)
			} else {
				refused(t, p, api.ErrPool)
			}
		}
	}
}

func TestCheckLeadsForward(t *testing.T) { // P4.1: anywhere in the pool
	p := []api.Const{{}, {Tag: api.CField, A: 4, B: 3}, {Tag: api.CMethod, A: 4, B: 3}, {Tag: api.CName, A: 5, B: 6}, {Tag: api.CClass, A: 6}, {Tag: api.CUtf8, Text: "x"}, {Tag: api.CUtf8, Text: "I"}}
	goesRound(t, p)
	slices.Reverse(p[1:])
	for i := 1; i < len(p); i++ { // the same, led back
		if c := &p[i]; c.A != 0 {
			c.A = len(p) - c.A
			c.B = (len(p) - c.B) % len(p)
		}
	}
	goesRound(t, p)
	goesRound(t, []api.Const{{}, {Tag: api.CName, A: 2, B: 2}, {Tag: api.CUtf8}}) // both to one
	refused(t, []api.Const{{}, {Tag: api.CName, A: 2, B: 1}, {Tag: api.CUtf8}}, api.ErrPool)
	refused(t, []api.Const{{}, {Tag: api.CName, A: 1, B: 2}, {Tag: api.CUtf8}}, api.ErrPool)
	refused(t, []api.Const{{}, {Tag: api.CClass, A: 2}, {Tag: api.CClass, A: 1}}, api.ErrPool) // round and round
}

func TestCheckTwoFaults(t *testing.T) { // P4.1, P2
	long := strings.Repeat("a", api.MaxName+1)
	for _, bad := range []string{"\xFF", long} { // at one place ErrPool is ahead
		for _, c := range []api.Const{{Text: bad}, {Tag: 2, Text: bad}, {Tag: api.CUtf8, Text: bad, N: 1}, {Tag: api.CUtf8, Text: bad, A: 1}, {Tag: api.CUtf8, Text: bad, B: 1}, {Tag: api.CInt, Text: bad}, {Tag: api.CLong, Text: bad}, {Tag: api.CClass, A: 2, Text: bad}, {Tag: api.CField, A: 5, B: 4, Text: bad}} {
			p, _ := with(c)
			refused(t, p, api.ErrPool)
		}
	}
	utf := []api.Const{{Tag: api.CUtf8, Text: "\xFF"}, {Tag: api.CUtf8, Text: long}}
	other := []api.Const{{}, {Tag: 2}, {Tag: api.CUtf8, N: 1}, {Tag: api.CInt, N: 1 << 31}, {Tag: api.CClass}, {Tag: api.CClass, A: 99}, {Tag: api.CName, A: 2, B: 99}, {Tag: api.CField, A: 2, B: 2}}
	for _, u := range utf {
		for _, o := range other { // of two places the first
			refused(t, []api.Const{{}, u, o}, api.ErrUtf)
			refused(t, []api.Const{{}, o, u}, api.ErrPool)
			refused(t, append(sample(), u, api.Const{Tag: api.CInt}, o), api.ErrUtf)
			refused(t, append(sample(), o, api.Const{Tag: api.CInt}, u), api.ErrPool)
			refused(t, []api.Const{o, u}, checkByHand([]api.Const{o, u}))
		}
		refused(t, []api.Const{u, {}}, api.ErrPool)
		refused(t, []api.Const{{}, u, u}, api.ErrUtf)
		refused(t, []api.Const{{}, {Tag: api.CClass, A: 2}, u}, api.ErrUtf) // at the first place nothing is wrong
	}
}

func TestCheckSameAgain(t *testing.T) { // P4, P5
	p := sample()
	for range 3 {
		if e := pool.Check(p); e != api.OK {
			t.Errorf("Check: %d", e)
		}
		refused(t, []api.Const{{}, {Tag: 99}}, api.ErrPool)
	}
	p[3].Tag = 99
	refused(t, p, api.ErrPool)
	p[3].Tag = api.CUtf8
	goesRound(t, p)
}
