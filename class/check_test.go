package class_test

import (
	"bytes"
	"math"
	"slices"
	"strings"
	"testing"

	"understudy/api"
	"understudy/class"
	"understudy/pool"
)

// asks asks of the sample, changed, that it goes round where right holds, and is refused else.
func asks(t *testing.T, right bool, change func(c *api.Class)) {
	t.Helper()
	c := sample()
	change(&c)
	want := api.ErrClass
	if right {
		want = api.OK
	}
	if e := checkByHand(c); e != want {
		t.Errorf("by hand %s: %d", show(c), e)
	}
	if right {
		goesRound(t, c)
	} else {
		refused(t, c, api.ErrClass)
	}
}

// places answers all places of the sample's pool, and numbers that are none.
func places() []int {
	l := []int{-1, -2, math.MinInt, math.MaxInt, behindAt + 1, 255, 256, 1<<16 - 1, 1 << 16, 1<<16 + thisAt, 1<<16 + fAt, 1<<32 + thisAt, 1<<32 + fAt, -1<<16 + thisAt, -1<<16 + fAt}
	for i := range behindAt + 1 {
		l = append(l, i)
	}
	return l
}

// ends are numbers that are too low or too high for nearly all.
var ends = []int{-1, -2, -1 << 16, -1 << 32, math.MinInt, math.MinInt + 1, 1 << 16, 1<<16 + 1, 1<<16 + 8, 1 << 32, 1<<32 + 1, 1<<32 + 8, math.MaxInt}

func TestCheckRight(t *testing.T) { // P5.1, P5.3
	goesRound(t, sample())
	b := goesRound(t, least())
	if string(b) != "\xCA\xFE\xBA\xBE\x00\x00\x00\x3D\x00\x03\x07\x00\x02\x01\x00\x00\x00\x00\x00\x01\x00\x01\x00\x00\x00\x00\x00\x00\x00\x00" {
		t.Errorf("the least: %x", b)
	}
	if e := checkByHand(sample()); e != api.OK {
		t.Errorf("by hand: %d", e)
	}
}

// badPools answers wrong pools, and the error of each.
func badPools() map[api.Errno][][]api.Const {
	long := make([]api.Const, api.MaxPool+1)
	copy(long, samplePool())
	for i := len(samplePool()); i < len(long); i++ {
		long[i] = utf("")
	}
	return map[api.Errno][][]api.Const{
		api.ErrLong: {long, make([]api.Const, 2*api.MaxPool)},
		api.ErrPool: {nil, {}, samplePool()[1:], append(samplePool(), api.Const{}), append(samplePool(), api.Const{Tag: 99}), append(samplePool(), api.Const{Tag: api.CClass, A: 99}), append(samplePool(), api.Const{Tag: api.CInt, N: 1 << 31})},
		api.ErrUtf:  {append(samplePool(), utf("\xFF")), append(samplePool(), utf(strings.Repeat("a", api.MaxName+1)))},
	}
}

func TestCheckPool(t *testing.T) { // P5.1, P2: the pool's error is ahead of all
	for want, l := range badPools() {
		for _, p := range l {
			if e := pool.Check(p); e != want {
				t.Errorf("pool.Check: %d; want %d", e, want)
			}
			c := sample()
			c.Pool = p
			refused(t, c, want)
			c.This, c.Super = -1, -1
			refused(t, c, want)
			c.Fields = make([]api.Field, api.MaxMembers+1)
			refused(t, c, want)
			c.Methods = make([]api.Method, api.MaxMembers+1)
			refused(t, c, want)
			refused(t, api.Class{Pool: p}, want)
		}
	}
	refused(t, api.Class{}, api.ErrPool)
	refused(t, api.Class{Pool: []api.Const{{}}}, api.ErrClass)
}

func TestCheckCounts(t *testing.T) { // P5.1, the limit MaxMembers
	c := sample()
	fields, methods, traps := slices.Repeat(c.Fields[:1], 2000), slices.Repeat(c.Methods[:1], 2000), slices.Repeat(c.Methods[0].Traps[:1], 2000)
	for _, n := range []int{0, 1, 2, api.MaxMembers - 1, api.MaxMembers, api.MaxMembers + 1, 2 * api.MaxMembers, 255, 256, 1000, 2000} {
		ask := func(c api.Class) {
			t.Helper()
			if n <= api.MaxMembers {
				goesRound(t, c)
			} else {
				refused(t, c, api.ErrLong)
			}
		}
		c := sample()
		c.Fields = fields[:n]
		ask(c)
		c = sample()
		c.Methods = methods[:n]
		ask(c)
		for i := range sample().Methods {
			c = sample()
			c.Methods[i].Code = []byte{1, 2, 3, 4, 5}
			c.Methods[i].Traps = traps[:n]
			ask(c)
		}
	}
	c = sample()
	c.Fields, c.Methods = fields[:64], methods[:64]
	c.Methods[0].Traps, c.Methods[63].Traps = traps[:64], traps[:64]
	goesRound(t, c)
	for _, n := range []int{1 << 16, 1<<16 + 1} { // as many as two bytes can't tell
		c = sample()
		c.Fields = slices.Repeat(fields[:1], n)
		refused(t, c, api.ErrLong)
		c = sample()
		c.Methods = slices.Repeat(methods[:1], n)
		refused(t, c, api.ErrLong)
		c = sample()
		c.Methods[1].Traps = slices.Repeat(traps[:1], n)
		refused(t, c, api.ErrLong)
	}
}

func TestCheckThisAndSuper(t *testing.T) { // P5.1, P6
	for _, at := range places() {
		isClass := at == thisAt || at == superAt || at == trapAt
		asks(t, isClass, func(c *api.Class) { c.This = at })
		asks(t, isClass, func(c *api.Class) { c.Super = at })
		asks(t, isClass, func(c *api.Class) { c.This, c.Super = at, at })
	}
}

func TestCheckFlags(t *testing.T) { // P5.1
	l := slices.Clone(ends)
	for n := range 300 {
		l = append(l, n, -n)
	}
	for _, n := range l {
		right := n == 0 || n == api.Static
		for i := range sample().Fields {
			asks(t, right, func(c *api.Class) { c.Fields[i].Flags = n })
		}
		for i := range sample().Methods {
			asks(t, right, func(c *api.Class) { c.Methods[i].Flags = n })
		}
	}
}

func TestCheckNames(t *testing.T) { // P5.1, P6: what leads to a text, and to each other tag
	for _, at := range places() {
		isText := tagAt(samplePool(), at) == api.CUtf8
		for i := range sample().Fields {
			asks(t, isText, func(c *api.Class) { c.Fields[i].Name = at })
			asks(t, isText, func(c *api.Class) { c.Fields[i].Desc = at })
		}
		for i := range sample().Methods {
			asks(t, isText, func(c *api.Class) { c.Methods[i].Name = at })
			asks(t, isText, func(c *api.Class) { c.Methods[i].Desc = at })
		}
	}
}

func TestCheckSlots(t *testing.T) { // P5.1, the limit MaxSlots
	l := append([]int{0, 1, 2, api.MaxSlots - 1, api.MaxSlots, api.MaxSlots + 1, api.MaxSlots + 2, 2 * api.MaxSlots, 255, 256, 1<<16 - 1}, ends...)
	for _, n := range l {
		right := n >= 0 && n <= 64
		for i := range sample().Methods {
			asks(t, right, func(c *api.Class) { c.Methods[i].Stack = n })
			asks(t, right, func(c *api.Class) { c.Methods[i].Locals = n })
		}
	}
}

func TestCheckCode(t *testing.T) { // P5.1, the limit MaxCode
	code := bytes.Repeat([]byte{1, 2, 3, 4, 5, 0, 0xFF}, 10000)
	for _, n := range []int{0, 1, 2, 255, 256, api.MaxCode - 1, api.MaxCode, api.MaxCode + 1, api.MaxCode + 2, 2 * api.MaxCode, 1<<16 - 1, 1 << 16, 1<<16 + 1} {
		for i := range sample().Methods {
			asks(t, n >= 1 && n <= 4096, func(c *api.Class) {
				c.Methods[i].Code = code[:n]
				c.Methods[i].Traps = nil
			})
		}
	}
	asks(t, false, func(c *api.Class) { c.Methods[1].Code = nil })
}

func TestCheckTraps(t *testing.T) { // P5.1, P6: all places around the ends of a code of three bytes
	trap := func(right bool, x api.Trap) {
		t.Helper()
		asks(t, right, func(c *api.Class) { c.Methods[3].Traps[0] = x })
		asks(t, right, func(c *api.Class) { c.Methods[3].Traps = append(c.Methods[3].Traps, api.Trap{To: 1}, x) })
	}
	for from := -2; from <= 5; from++ {
		for to := -2; to <= 5; to++ {
			for handler := -2; handler <= 5; handler++ {
				trap(from >= 0 && from < to && to <= 3 && handler >= 0 && handler < 3, api.Trap{From: from, To: to, Handler: handler})
			}
		}
	}
	for _, n := range ends {
		trap(false, api.Trap{From: n, To: 3})
		trap(false, api.Trap{From: n, To: n + 1})
		trap(false, api.Trap{From: n, To: n})
		trap(false, api.Trap{From: 0, To: n})
		trap(false, api.Trap{From: 0, To: 3, Handler: n})
		trap(false, api.Trap{From: 0, To: 3, Handler: 0, Type: n})
	}
	for _, at := range places() {
		trap(at == 0 || tagAt(samplePool(), at) == api.CClass, api.Trap{To: 1, Type: at})
	}
	asks(t, false, func(c *api.Class) { c.Methods[1].Traps = []api.Trap{{}} }) // From is not below To
	asks(t, true, func(c *api.Class) { c.Methods[1].Traps = []api.Trap{{To: 1}} })
	long := func(x api.Trap) func(c *api.Class) { // the code is as long as can be
		return func(c *api.Class) {
			c.Methods[1].Code = make([]byte, api.MaxCode)
			c.Methods[1].Traps = []api.Trap{x}
		}
	}
	asks(t, true, long(api.Trap{From: api.MaxCode - 1, To: api.MaxCode, Handler: api.MaxCode - 1}))
	asks(t, false, long(api.Trap{From: api.MaxCode - 1, To: api.MaxCode, Handler: api.MaxCode}))
	asks(t, false, long(api.Trap{From: api.MaxCode, To: api.MaxCode + 1, Handler: 0}))
	asks(t, false, long(api.Trap{From: api.MaxCode, To: api.MaxCode, Handler: 0}))
}

func TestCheckMaps(t *testing.T) { // P5.1, P3, the limit MaxCode
	maps := bytes.Repeat([]byte{1, 2, 3, 4, 5, 0, 0xFF}, 10000)
	for _, n := range []int{1, 2, 255, 256, api.MaxCode - 1, api.MaxCode, api.MaxCode + 1, api.MaxCode + 2, 2 * api.MaxCode, 1<<16 - 1, 1 << 16, 1<<16 + 1} {
		for i := range sample().Methods {
			asks(t, n <= 4096, func(c *api.Class) { c.Methods[i].Maps = maps[:n] })
		}
	}
	for i := range sample().Methods {
		asks(t, true, func(c *api.Class) { c.Methods[i].Maps = nil })
		asks(t, true, func(c *api.Class) { c.Methods[i].Maps = []byte{} })
		asks(t, true, func(c *api.Class) { c.Methods[i].Maps = maps[:0] })
	}
}

func TestCheckEmptyLists(t *testing.T) { // P3: nil and empty lists are the same
	c := sample()
	c.Fields, c.Methods = nil, nil
	b := goesRound(t, c)
	c.Fields, c.Methods = []api.Field{}, []api.Method{}
	if d := goesRound(t, c); !bytes.Equal(b, d) {
		t.Errorf("%x; want %x", d, b)
	}
	c = sample()
	c.Methods[1].Traps, c.Methods[1].Maps = nil, nil
	b = goesRound(t, c)
	c.Methods[1].Traps, c.Methods[1].Maps = []api.Trap{}, []byte{}
	if d := goesRound(t, c); !bytes.Equal(b, d) {
		t.Errorf("%x; want %x", d, b)
	}
}

// without answers the sample, each text s of its pool another text.
func without(s string) api.Class {
	c := sample()
	for i := range c.Pool {
		if c.Pool[i].Text == s {
			c.Pool[i].Text = s + "?"
		}
	}
	return c
}

func TestCheckTexts(t *testing.T) { // P5.1: the texts that must be there, and where
	c := without("Code")
	refused(t, c, api.ErrClass)
	c.Methods = c.Methods[1:2]
	refused(t, c, api.ErrClass)
	c.Methods = nil
	goesRound(t, c) // no method, no text Code

	c = without("StackMapTable")
	refused(t, c, api.ErrClass)
	for i := range c.Methods { // one that has maps is enough
		d := clone(c)
		for j := range d.Methods {
			if j != i {
				d.Methods[j].Maps = nil
			}
		}
		d.Methods[i].Maps = []byte{1}
		refused(t, d, api.ErrClass)
		d.Methods[i].Maps = []byte{}
		goesRound(t, d)
	}
	c.Methods = nil
	goesRound(t, c)

	for _, like := range []string{"code", "CODE", "Code ", "Cod", "", "Code\x00"} { // texts that are nearly that
		c = without("Code")
		c.Pool[codeAt].Text = like
		refused(t, c, api.ErrClass)
	}
	c = without("Code") // a class of that name is no such text, but what it leads to is
	c.Pool = append(c.Pool, api.Const{Tag: api.CClass, A: behindAt + 1}, utf("Code"))
	goesRound(t, c)
}

func TestEncodeEarliest(t *testing.T) { // P5.1: of texts that are there twice the earliest place is written
	for _, s := range []string{"Code", "StackMapTable"} {
		at := []int{}
		for i, x := range samplePool() {
			if x.Text == s {
				at = append(at, i)
			}
		}
		if len(at) != 2 {
			t.Fatalf("%s is there %d times", s, len(at))
		}
		for i := range 4 { // none, each, and both of them
			c := without(s)
			for j, x := range at {
				if i>>j&1 == 1 {
					c.Pool[x].Text = s
				}
			}
			if i == 0 {
				refused(t, c, api.ErrClass)
				continue
			}
			f := lay(c)
			if b := goesRound(t, c); !bytes.Equal(b, f.b) {
				t.Errorf("%x; want %x", b, f.b)
			}
			for _, p := range f.called("place of " + s) {
				if n := f.value(p); n != at[0] && i&1 == 1 || n != at[1] && i == 2 {
					t.Errorf("%s: the place %d", s, n)
				}
			}
		}
	}
	c := sample()
	c.Pool[1], c.Pool[codeAt] = utf("Code"), utf("StackMapTable") // at the place 1, and turned about
	goesRound(t, c)
	many := make([]api.Const, api.MaxPool) // at the last places there may be
	copy(many, samplePool())
	for i := range many {
		if i >= len(samplePool()) || many[i].Text == "Code" || many[i].Text == "StackMapTable" {
			many[i] = utf("x")
		}
	}
	many[api.MaxPool-1], many[api.MaxPool-2] = utf("Code"), utf("StackMapTable")
	c.Pool = many
	goesRound(t, c)
}

// faults are changes of the sample that are refused by ErrClass each.
func faults() []func(c *api.Class) {
	l := []func(c *api.Class){
		func(c *api.Class) { c.This = 0 },
		func(c *api.Class) { c.Super = -1 },
		func(c *api.Class) { c.Pool = without("Code").Pool },
		func(c *api.Class) { c.Pool = without("StackMapTable").Pool },
		func(c *api.Class) { c.Fields[0].Flags = 1 },
		func(c *api.Class) { c.Fields[1].Name = thisAt },
		func(c *api.Class) { c.Fields[1].Desc = 0 },
	}
	for _, i := range []int{0, 3} {
		l = append(l,
			func(c *api.Class) { c.Methods[i].Flags = 9 },
			func(c *api.Class) { c.Methods[i].Name = 0 },
			func(c *api.Class) { c.Methods[i].Desc = superAt },
			func(c *api.Class) { c.Methods[i].Stack = api.MaxSlots + 1 },
			func(c *api.Class) { c.Methods[i].Locals = -1 },
			func(c *api.Class) { c.Methods[i].Code = nil },
			func(c *api.Class) { c.Methods[i].Code = make([]byte, api.MaxCode+1) },
			func(c *api.Class) { c.Methods[i].Maps = make([]byte, api.MaxCode+1) },
			func(c *api.Class) { c.Methods[i].Traps[0].From = -1 },
			func(c *api.Class) { c.Methods[i].Traps[0].To = 99 },
			func(c *api.Class) { c.Methods[i].Traps[0].Handler = 99 },
			func(c *api.Class) { c.Methods[i].Traps[0].Type = fAt },
		)
	}
	return l
}

func TestCheckTwoFaults(t *testing.T) { // P5.1, P2: ErrLong is ahead of ErrClass, and ErrClass of itself
	longs := []func(c *api.Class){
		func(c *api.Class) { c.Fields = append(c.Fields, make([]api.Field, api.MaxMembers)...) },
		func(c *api.Class) { c.Methods = append(c.Methods, make([]api.Method, api.MaxMembers)...) },
		func(c *api.Class) {
			c.Methods[0].Traps = append(c.Methods[0].Traps, make([]api.Trap, api.MaxMembers)...)
		},
		func(c *api.Class) {
			c.Methods[3].Traps = append(c.Methods[3].Traps, make([]api.Trap, api.MaxMembers)...)
		},
	}
	for _, fault := range faults() {
		asks(t, false, fault)
		for _, long := range longs {
			c := sample()
			fault(&c)
			long(&c)
			refused(t, c, api.ErrLong)
			c = sample()
			long(&c)
			fault(&c)
			refused(t, c, api.ErrLong)
		}
		for _, other := range faults() {
			asks(t, false, func(c *api.Class) {
				fault(c)
				other(c)
			})
		}
	}
}

func TestCheckKeepsNothing(t *testing.T) { // P4, P5
	c := sample()
	for range 3 {
		if e := class.Check(c); e != api.OK {
			t.Errorf("Check: %d", e)
		}
		refused(t, api.Class{}, api.ErrPool)
		refused(t, without("Code"), api.ErrClass)
	}
	c.Methods[3].Code[0] = 99 // no matter what a code is
	goesRound(t, c)
	c.Methods[3].Traps[0].To = 4
	refused(t, c, api.ErrClass)
	c.Methods[3].Traps[0].To = 3
	goesRound(t, c)
}
