package inflate

import (
	"strconv"

	"spool/api"
)

// stopped is what reading gives up with, deep inside.
type stopped struct{ errno api.Errno }

func (s stopped) Error() string {
	return "the stream can't be read on: error " + strconv.Itoa(int(s.errno))
}

func giveUp(e api.Errno) { panic(stopped{e}) }

// input gives a stream's bits. A byte is taken only when a bit of it is needed, so that at is always
// how many bytes the stream has so far.
type input struct {
	from []byte
	at   int
	held byte // the bits of the byte taken last that are still to come
	left int  // how many they are
}

func (in *input) take() byte {
	if in.at == len(in.from) {
		giveUp(api.ErrShort)
	}
	in.at++
	return in.from[in.at-1]
}

func (in *input) bit() int {
	if in.left == 0 {
		in.held, in.left = in.take(), 8
	}
	bit := int(in.held & 1)
	in.held >>= 1
	in.left--
	return bit
}

func (in *input) number(bits int) int {
	n := 0
	for i := range bits {
		n |= in.bit() << i
	}
	return n
}

func (in *input) passToByte() { in.left = 0 }

func (in *input) twoBytes() int {
	low := int(in.take())
	return low | int(in.take())<<8
}
