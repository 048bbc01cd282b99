package deflate

import "spool/codes"

// token: a byte; or, if it has a length, so many bytes that came out that distance ahead.
type token struct {
	literal          byte
	length, distance int
}

// size tells how many bytes come out of it.
func (t token) size() int { return max(1, t.length) }

func singles(b []byte) []token {
	tokens := make([]token, len(b))
	for i, c := range b {
		tokens[i].literal = c
	}
	return tokens
}

// far: from farther away three bytes mostly cost more than one by one, as a greater distance has more bits.
const far = 4096

// repeats goes through b and takes a repeat where there is one. From level 4 on it leaves it for a longer one
// that begins at the next byte.
func repeats(b []byte, level int) []token {
	f := newFinder(b, 2<<level)
	var tokens []token
	for at := 0; at < len(b); {
		t := f.longest(at)
		if level >= 4 && t.length > 0 && f.longest(at+1).length > t.length {
			t = token{literal: b[at]}
		}
		tokens = append(tokens, t)
		at += t.size()
	}
	return tokens
}

// finder finds earlier places that go on like a later one. Places whose first bytes mix to the same number are
// in one chain, the nearest first.
type finder struct {
	b      []byte
	tries  int
	latest []int // by their number
	ahead  []int // by the place behind it in the chain
	next   int   // the first place that is in no chain yet
}

const mixBits = 12

func newFinder(b []byte, tries int) *finder {
	f := &finder{b: b, tries: tries, latest: make([]int, 1<<mixBits), ahead: make([]int, len(b))}
	for i := range f.latest {
		f.latest[i] = -1
	}
	return f
}

func (f *finder) mixed(at int) uint32 {
	n := uint32(f.b[at]) | uint32(f.b[at+1])<<8 | uint32(f.b[at+2])<<16
	return n * 2654435761 >> (32 - mixBits) // the golden ratio's part of 2^32: its high bits hang on all bytes
}

func (f *finder) chain(until int) {
	for ; f.next < until; f.next++ {
		n := f.mixed(f.next)
		f.ahead[f.next] = f.latest[n]
		f.latest[n] = f.next
	}
}

// longest tells the longest repeat that begins at a place, the nearest of those; or the byte there.
// Places must be asked for from the front on.
func (f *finder) longest(at int) token {
	room := min(codes.Longest, len(f.b)-at)
	if room < codes.Shortest {
		return f.single(at)
	}
	f.chain(at)
	best := f.single(at)
	place := f.latest[f.mixed(at)]
	for tries := f.tries; tries > 0 && place >= 0 && best.length < room; tries-- {
		if length := f.alike(place, at, room); length > best.length && worthIt(length, at-place) {
			best.length, best.distance = length, at-place
		}
		place = f.ahead[place]
	}
	return best
}

func (f *finder) single(at int) token { return token{literal: f.b[at]} }

func (f *finder) alike(place, at, room int) int {
	length := 0
	for length < room && f.b[place+length] == f.b[at+length] {
		length++
	}
	return length
}

func worthIt(length, distance int) bool {
	return length > codes.Shortest || length == codes.Shortest && distance <= far
}
