package archive

import (
	"slices"
	"sync"

	"spool/api"
	"spool/member"
)

// Pack makes an archive of which b comes out.
func Pack(b []byte, level int, workers int) ([]byte, api.Errno) {
	if len(b) > api.MaxIn || level < 0 || level > api.MaxLevel || workers < 1 || workers > api.MaxWorkers {
		return nil, api.ErrArg
	}
	members := wrapAll(b, level, workers)
	return append(slices.Concat(members...), end...), api.OK
}

// wrapAll gives the members of b. No two workers have a place of the list in common, so none waits for another.
func wrapAll(b []byte, level, workers int) [][]byte {
	members := make([][]byte, (len(b)+api.Chunk-1)/api.Chunk)
	var group sync.WaitGroup
	for first := range workers {
		group.Go(func() {
			for i := first; i < len(members); i += workers {
				members[i] = wrapped(b, i, level)
			}
		})
	}
	group.Wait()
	return members
}

// wrapped gives member i. Wrap refuses neither so few bytes nor a level that Pack has looked at.
func wrapped(b []byte, i, level int) []byte {
	from := i * api.Chunk
	m, _ := member.Wrap(b[from:min(from+api.Chunk, len(b))], level)
	return m
}
