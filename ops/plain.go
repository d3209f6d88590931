package ops

import "understudy/api"

// Codes of which others are short forms; and bipush, a short form with a number of its own.
const (
	lconst = 9 // lconst_0: it has a number in plain forms alone
	bipush = 16
	sipush = 17
	iload  = 21
	lload  = 22
	aload  = 25
	istore = 54
	lstore = 55
	astore = 58
)

// run is codes one behind the other that are short forms of one code: the first of them with the number a, each other with one more than that ahead of it.
type run struct {
	first, last int
	plain       int
	a           int
}

// runOf answers the run that has the code op, and whether there is one.
func runOf(op int) (run, bool) {
	for _, r := range [...]run{
		{2, 8, sipush, -1}, // iconst_m1 to iconst_5
		{10, 10, lconst, 1},
		{26, 29, iload, 0},
		{30, 33, lload, 0},
		{42, 45, aload, 0},
		{59, 62, istore, 0},
		{63, 66, lstore, 0},
		{75, 78, astore, 0},
	} {
		if op >= r.first && op <= r.last {
			return r, true
		}
	}
	return run{}, false
}

// Plain answers the instruction i in its plain form.
func Plain(i api.Instr) api.Instr {
	if i.Op == bipush {
		i.Op, i.B = sipush, 0
		return i
	}
	r, isShort := runOf(i.Op)
	if isShort {
		i.Op, i.A, i.B = r.plain, r.a+i.Op-r.first, 0
	}
	return i
}
