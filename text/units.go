package text

import "unicode/utf8"

// Where units of another shape begin. A unit is a rune too, as halves of pairs and code points are told from one another.
const (
	twoBytes   = 0x80
	threeBytes = 0x800
	higherHalf = 0xD800
	lowerHalf  = 0xDC00
	noHalf     = 0xE000
	pairs      = 0x10000 // the first code point of two units, and behind the last unit
)

// What bytes begin with.
const (
	leadOfTwo   = 0xC0
	leadOfThree = 0xE0
	leadOfFour  = 0xF0
	follower    = 0x80
)

// How many bits of a number a follower has, and a half of a pair.
const (
	followerBits = 6
	halfBits     = 10
)

// span makes what tells whether a unit, or a byte, is one of those from first to (not with) end.
func span(first, end rune) func(u rune) bool {
	return func(u rune) bool { return u >= first && u < end }
}

// unitSize tells how many bytes a unit has. Both ways ask it, so that what is longer than it must be, which is never written, is never read.
func unitSize(u rune) int {
	one, three := span(1, twoBytes), span(threeBytes, pairs)
	switch {
	case one(u):
		return 1
	case three(u):
		return 3
	}
	return 2 // the unit 0 as well, so that no byte is 0
}

// eachUnit goes over the units of the text s, and tells each and how many bytes it has. Of what is no right UTF-8 it tells none, and answers false.
func eachUnit(s string, tell func(u rune, size int)) bool {
	if !utf8.ValidString(s) {
		return false
	}
	for _, c := range s {
		if c >= pairs {
			past := c - pairs
			high := higherHalf + past>>halfBits
			tell(high, unitSize(high))
			c = lowerHalf + lowest(past, halfBits)
		}
		tell(c, unitSize(c))
	}
	return true
}

// lowest keeps the lowest n bits of u.
func lowest(u rune, n int) rune { return u & (1<<n - 1) }

// appendUnit appends the bytes of the unit u, of that size, to b.
func appendUnit(b []byte, u rune, size int) []byte {
	last := follower + byte(lowest(u, followerBits))
	rest := u >> followerBits
	switch size {
	case 1:
		return append(b, byte(u))
	case 2:
		return append(b, leadOfTwo+byte(rest), last)
	}
	return append(b, leadOfThree+byte(rest>>followerBits), follower+byte(lowest(rest, followerBits)), last)
}

// firstUnit tells the unit whose bytes b begins with, and how many they are: 0 where they are none of a unit.
func firstUnit(b []byte) (rune, int) {
	if len(b) == 0 {
		return 0, 0
	}
	u, size := lead(rune(b[0]))
	if len(b) < size {
		return 0, 0
	}
	isFollower := span(follower, leadOfTwo)
	for i := 1; i < size; i++ {
		c := rune(b[i])
		if !isFollower(c) {
			return 0, 0
		}
		u = u<<followerBits + c - follower
	}
	if unitSize(u) != size {
		return 0, 0
	}
	return u, size
}

// lead tells what the first byte c of a unit gives to it, and how many bytes the unit then has: 0 where no unit begins so.
func lead(c rune) (rune, int) {
	one, two, three := span(0, twoBytes), span(leadOfTwo, leadOfThree), span(leadOfThree, leadOfFour)
	switch {
	case one(c):
		return c, 1
	case two(c):
		return c - leadOfTwo, 2
	case three(c):
		return c - leadOfThree, 3
	}
	return 0, 0
}

// firstPoint tells the code point whose units' bytes b begins with, and how many they are: 0 where they are none of a code point.
func firstPoint(b []byte) (rune, int) {
	isHigher, isLower := span(higherHalf, lowerHalf), span(lowerHalf, noHalf)
	u, size := firstUnit(b)
	switch {
	case isLower(u):
		return 0, 0
	case !isHigher(u):
		return u, size
	}
	low, more := firstUnit(b[size:])
	if !isLower(low) {
		return 0, 0
	}
	return pairs + (u-higherHalf)<<halfBits + (low - lowerHalf), size + more
}
