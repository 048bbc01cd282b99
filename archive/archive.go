// Package archive makes archives, and goes through their members (P9, P10, P11).
package archive

import (
	"bytes"

	"spool/api"
	"spool/member"
)

// end: what every archive ends with. Any other member of no bytes is a fault, so it is known by all of its bytes.
var end = []byte{31, 139, 8, 4, 0, 0, 0, 0, 0, 255, 6, 0, 66, 67, 2, 0, 27, 0, 3, 0, 0, 0, 0, 0, 0, 0, 0, 0}

// reading tells of the member that rest begins with how many bytes come out of it, and how many it has; or an error and its place.
type reading func(rest []byte) (count uint32, size int, errno api.Errno)

// Unpack reads an archive: what comes out, and how many bytes it has; or an error and its place.
func Unpack(b []byte) ([]byte, int, api.Errno) {
	var all []byte
	_, size, errno := walk(b, func(rest []byte) (uint32, int, api.Errno) {
		out, size, errno := member.Unwrap(rest)
		all = append(all, out...)
		return uint32(len(out)), size, errno
	})
	if errno != api.OK {
		return nil, size, errno
	}
	return all, size, api.OK
}

// Index tells the members of an archive but for its end, and how many bytes it has; or an error and its place.
// Streams and sums are not looked at.
func Index(b []byte) ([]api.Entry, int, api.Errno) { return walk(b, member.Look) }

// walk goes from member to member. All readings share it, so that their errors come in one order.
func walk(b []byte, read reading) ([]api.Entry, int, api.Errno) {
	var members []api.Entry
	at, from := 0, 0
	for at < len(b) {
		count, size, errno := read(b[at:])
		next := at + size
		switch {
		case errno != api.OK:
			return nil, next, errno
		case bytes.Equal(b[at:next], end):
			return closed(members, next, len(b))
		case count == 0:
			return nil, at, api.ErrData
		case count > api.MaxBlock || from+int(count) > api.MaxOut:
			return nil, at, api.ErrLimit
		}
		members = append(members, api.Entry{At: at, From: from, Size: int(count)})
		at, from = next, from+int(count)
	}
	return nil, at, api.ErrEnd
}

// closed answers for an archive whose end has been met: nothing may stand behind it.
func closed(members []api.Entry, size, all int) ([]api.Entry, int, api.Errno) {
	if size < all {
		return nil, size, api.ErrData
	}
	return members, size, api.OK
}
