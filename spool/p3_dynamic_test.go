package spool_test

import (
	"fmt"
	"strings"
	"testing"

	"spool/api"
)

// The lengths of the codes of lengths stand in the order 16 17 18 0 8 7 9 6 10 5 11 4 12 3 13 2 14 1.
const (
	lens0To2   = "3:0 3:0 3:2 3:2 3:0 3:0 3:0 3:0 3:0 3:0 3:0 3:0 3:0 3:0 3:0 3:2 3:0 3:2 " // 0: 00, 1: 01, 2: 10, 18: 11
	lensAgain  = "3:2 3:0 3:2 3:2 3:0 3:0 3:0 3:0 3:0 3:0 3:0 3:0 3:0 3:0 3:0 3:0 3:0 3:2 " // 0: 00, 1: 01, 16: 10, 18: 11
	lensZeros  = "3:2 3:2 3:2 3:0 3:0 3:0 3:0 3:0 3:0 3:0 3:0 3:0 3:0 3:0 3:0 3:0 3:0 3:2 " // 1: 00, 16: 01, 17: 10, 18: 11
	lensAgain2 = "3:2 3:0 3:2 3:3 3:0 3:0 3:0 3:0 3:0 3:0 3:0 3:0 3:0 3:0 3:0 3:3 3:0 3:2 " // 1: 00, 16: 01, 18: 10, 0: 110, 2: 111
)

// dynamicStart: a last block of 257 literal codes and one distance code.
const dynamicStart = "1:1 2:2 5:0 5:0 4:14 " + lens0To2

// abRow: the codes 0 for the end, 10 for a, 11 for b, 0 for the distance 1.
const abRow = "11 7:86 10 10 11 7:127 11 7:8 01 01 "

func TestP3Dynamic(t *testing.T) {
	gives(t, dynamicStart+abRow+"10 11 11 10 0", "abba")
	whole := stream(dynamicStart + abRow + "10 11 11 10 0")
	for cut := range whole {
		refuses(t, whole[:cut], 9, api.ErrShort)
	}
}

func TestP3DynamicCounts(t *testing.T) { // told when all three numbers are read
	met(t, "1:1 2:2 5:30 5:0 4:0", 9, api.ErrData)
	met(t, "1:1 2:2 5:31 5:0 4:0", 9, api.ErrData)
	met(t, "1:1 2:2 5:0 5:30 4:0", 9, api.ErrData)
	met(t, "1:1 2:2 5:0 5:31 4:15", 9, api.ErrData)
	met(t, "1:1 2:2 5:29 5:29 4:0 3:0 3:0 3:0 3:0", 9, api.ErrData) // these may be: the next error is told
	// 286 literal codes and 30 distance codes: 256 and 285 have one bit, the distances none
	start := "1:1 2:2 5:29 5:29 4:14 " + lens0To2
	gives(t, start+"11 7:127 11 7:107 01 11 7:17 01 11 7:19 0", "")
	met(t, start+"11 7:127 11 7:107 01 11 7:17 01 11 7:19 1 0", 9, api.ErrData)
}

func TestP3CodesOfLengths(t *testing.T) { // told when all are read
	start := "1:1 2:2 5:0 5:0 4:0 "
	met(t, start+"3:0 3:0 3:0 3:0", 9, api.ErrData)                 // none
	met(t, start+"3:0 3:0 3:2 3:0", 9, api.ErrData)                 // one, of length 2
	met(t, start+"3:1 3:2 3:0 3:0", 9, api.ErrData)                 // too few
	met(t, start+"3:1 3:1 3:1 3:0", 9, api.ErrData)                 // too many
	met(t, start+"3:0 3:0 3:1 3:0 1", 9, api.ErrData)               // one of length 1 is good, but the other bit is no code
	met(t, start+"3:0 3:0 3:1 3:0 0 7:0 1", 9, api.ErrData)         //
	met(t, start+"3:0 3:0 3:1 3:0 0 7:127 0 7:109", 9, api.ErrData) // and all lengths can be 0, which is not good
}

// TestP3EachLength gives every length that there is to a code: 1 to 14, and 15 twice.
func TestP3EachLength(t *testing.T) {
	// 0 and 1 to 15 have codes of four bits: 0000 to 1111
	start := "1:1 2:2 5:0 5:0 4:15 3:0 3:0 3:0 3:4" + strings.Repeat(" 3:4", 15) + " "
	row, want, symbols := "", "", ""
	for c := range 257 {
		switch {
		case c < 15:
			row += fmt.Sprintf("%04b ", c+1)
		case c == 256:
			row += "1111 "
		default:
			row += "0000 "
		}
	}
	for c := range 15 { // a 0 behind as many ones as there are shorter codes
		symbols += strings.Repeat("1", c) + "0 "
		want += string([]byte{byte(c)})
	}
	gives(t, start+row+"0000 "+symbols+"111111111111111", want)
}

func TestP3SixteenWithNoLengthAhead(t *testing.T) { // at its code
	met(t, "1:1 2:2 5:0 5:0 4:0 3:1 3:0 3:1 3:0 0", 9, api.ErrData)
	met(t, "1:1 2:2 5:0 5:0 4:14 "+lensAgain+"10", 9, api.ErrData)
}

func TestP3Row(t *testing.T) {
	again := "1:1 2:2 5:0 5:0 4:14 " + lensAgain
	gives(t, again+"11 7:127 11 7:106 01 01 01 0 1", "\xff")
	gives(t, again+"11 7:127 11 7:106 01 01 00 0 1", "\xff")
	// 16 goes on from the literals' lengths into those of the distances
	over := strings.Replace(again, "5:0 5:0", "5:0 5:1", 1)
	gives(t, over+"11 7:127 11 7:106 01 10 2:0 0 1", "\xff")
	// 16 repeats a 0 that 18 has put
	gives(t, again+"11 7:127 11 7:100 10 2:3 01 01 00 0 1", "\xff")
	// 16 repeats 2: four distances of two bits
	four := "1:1 2:2 5:1 5:3 4:14 " + lensAgain2
	gives(t, four+"10 7:86 00 10 7:127 10 7:9 111 111 111 01 2:0 0 0 0 0 11 11 10", "aaaaaaa")
	// 17 and its number
	zeros := "1:1 2:2 5:0 5:0 4:14 " + lensZeros
	gives(t, zeros+"11 7:127 11 7:103 10 3:0 00 00 00 0 1", "\xff")
	gives(t, zeros+"11 7:127 11 7:96 10 3:7 00 00 00 0 1", "\xff")
	// 18 goes on into the distances
	gives(t, strings.Replace(zeros, "5:0 5:0", "5:0 5:29", 1)+"11 7:127 11 7:106 00 00 11 7:19 0 1", "\xff")
}

func TestP3RowTooLong(t *testing.T) { // told when the number is read
	zeros := "1:1 2:2 5:0 5:0 4:14 " + lensZeros
	met(t, zeros+"11 7:127 11 7:110", 9, api.ErrData)
	met(t, zeros+"11 7:127 11 7:109", 9, api.ErrData) // just long enough, and not good
	met(t, zeros+"11 7:127 11 7:107 00 10 3:0", 9, api.ErrData)
	met(t, zeros+"11 7:127 11 7:107 00 01 2:0", 9, api.ErrData)
	over := strings.Replace("1:1 2:2 5:0 5:0 4:14 "+lensAgain, "5:0 5:0", "5:0 5:1", 1)
	met(t, over+"11 7:127 11 7:106 01 10 2:1", 9, api.ErrData)
}

func TestP3LiteralLengths(t *testing.T) { // told when all lengths are read
	met(t, dynamicStart+"11 7:86 01 01 11 7:127 11 7:8 00 01", 9, api.ErrData) // good, but none for 256
	met(t, dynamicStart+"11 7:127 11 7:106 01 00 00", 9, api.ErrData)          // one alone, not for 256
	met(t, dynamicStart+"11 7:127 11 7:107 10 00", 9, api.ErrData)             // one of length 2
	met(t, dynamicStart+"11 7:86 01 01 11 7:127 11 7:8 01 01", 9, api.ErrData) // too many
	met(t, dynamicStart+"11 7:86 10 00 11 7:127 11 7:8 01 01", 9, api.ErrData) // too few
	gives(t, dynamicStart+"11 7:127 11 7:107 01 00 0", "")                     // one alone, for 256
	met(t, dynamicStart+"11 7:127 11 7:107 01 00 1", 9, api.ErrData)           // of which the bit 1 is no code
}

// matchRow: 258 literal codes: 0 for a, 10 for the end, 11 for the length 3; the distances follow.
const matchRow = "11 7:86 01 11 7:127 11 7:9 10 10 "

func TestP3DistanceLengths(t *testing.T) {
	one := "1:1 2:2 5:1 5:0 4:14 " + lens0To2 + matchRow
	two := "1:1 2:2 5:1 5:1 4:14 " + lens0To2 + matchRow
	three := "1:1 2:2 5:1 5:2 4:14 " + lens0To2 + matchRow
	gives(t, one+"01 0 11 0 10", "aaaa")                // one of length 1
	gives(t, two+"00 01 0 0 11 0 10", "aaaaa")          // the same, for the distance 2
	gives(t, two+"01 01 0 0 11 1 10", "aaaaa")          // two of length 1
	gives(t, three+"01 10 10 0 0 0 11 11 10", "aaaaaa") // of lengths 1, 2, 2
	gives(t, three+"10 01 10 0 0 11 0 10", "aaaaa")     // of lengths 2, 1, 2
	met(t, one+"01 0 11 1", 9, api.ErrData)             // the bit 1 is no code
	met(t, two+"00 01 0 0 11 1", 9, api.ErrData)        //
	met(t, one+"10", 9, api.ErrData)                    // one of length 2
	met(t, two+"10 01", 9, api.ErrData)                 // too few
	met(t, two+"10 10", 9, api.ErrData)                 //
	met(t, three+"01 01 01", 9, api.ErrData)            // too many
	met(t, three+"01 01 10", 9, api.ErrData)            //
	gives(t, one+"00 0 10", "a")                        // none at all
	gives(t, two+"00 00 0 10", "a")                     //
	met(t, one+"00 0 11 0", 9, api.ErrData)             // of which no bit is a code
	met(t, one+"00 0 11 1", 9, api.ErrData)             //
}

// TestP3BlocksHaveTheirOwnCodes has fixed and dynamic blocks by turns.
func TestP3BlocksHaveTheirOwnCodes(t *testing.T) {
	dynamic := strings.Replace(dynamicStart, "1:1", "1:0", 1) + abRow + "10 11 0 "
	fixed := "1:0 2:1 01111000 0000001 00000 0000000 "
	other := "1:0 2:2 5:1 5:0 4:14 " + lens0To2 + matchRow + "01 0 11 0 10 "
	gives(t, dynamic+fixed+other+fixed+dynamic+"1:1 2:1 0000001 00010 0000000", "abHHHHaaaaHHHHabHab")
}
