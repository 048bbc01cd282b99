// Package reader reads parts of an archive (P12).
package reader

import (
	"bytes"
	"sort"

	"spool/api"
	"spool/archive"
	"spool/member"
)

// Reader reads parts of one archive.
type Reader struct {
	archive []byte
	members []api.Entry
	size    int // how many bytes can be read
	there   cache
	loads   int
}

// Open makes a reader of an archive, and tells how many bytes can be read; or an error and its place.
func Open(b []byte, room int) (*Reader, int, api.Errno) {
	if room < 1 || room > api.MaxCache {
		return nil, 0, api.ErrArg
	}
	members, place, errno := archive.Index(b)
	if errno != api.OK {
		return nil, place, errno
	}
	size := 0
	for _, m := range members {
		size += m.Size
	}
	return &Reader{archive: bytes.Clone(b), members: members, size: size, there: cache{room: room}}, size, api.OK
}

// ReadAt reads n bytes from a place on, or as many as there are.
func (r *Reader) ReadAt(from int, n int) ([]byte, api.Errno) {
	if from < 0 || n < 0 || n > api.MaxRead {
		return nil, api.ErrArg
	}
	n = min(n, max(0, r.size-from))
	out := make([]byte, 0, n)
	for i := r.memberOf(from); len(out) < n; i++ {
		text, errno := r.take(i)
		if errno != api.OK {
			return nil, errno
		}
		text = text[from+len(out)-r.members[i].From:]
		out = append(out, text[:min(len(text), n-len(out))]...)
	}
	return out, api.OK
}

// Loads tells how many members were loaded.
func (r *Reader) Loads() int { return r.loads }

// memberOf tells which member the byte at a place comes out of.
func (r *Reader) memberOf(from int) int {
	return sort.Search(len(r.members), func(i int) bool { return r.members[i].From+r.members[i].Size > from })
}

// take gives what comes out of member i, and loads it if it is not there.
func (r *Reader) take(i int) ([]byte, api.Errno) {
	if text, ok := r.there.take(i); ok {
		return text, api.OK
	}
	r.loads++
	text, _, errno := member.Unwrap(r.archive[r.members[i].At:])
	if errno != api.OK {
		return nil, errno
	}
	r.there.add(i, text)
	return text, api.OK
}
