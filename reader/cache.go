package reader

import "slices"

// cache has what came out of the members last taken.
type cache struct {
	room int
	kept []kept // in the order in which they were last taken
}

type kept struct {
	member int
	text   []byte
}

// take gives what came out of a member, if it is there, which is the one last taken from now on.
func (c *cache) take(member int) ([]byte, bool) {
	at := slices.IndexFunc(c.kept, func(k kept) bool { return k.member == member })
	if at < 0 {
		return nil, false
	}
	k := c.kept[at]
	c.kept = append(slices.Delete(c.kept, at, at+1), k)
	return k.text, true
}

// add takes a member that is not there, in place of the one whose taking lies furthest back.
func (c *cache) add(member int, text []byte) {
	if len(c.kept) == c.room {
		c.kept = slices.Delete(c.kept, 0, 1)
	}
	c.kept = append(c.kept, kept{member, text})
}
