package spool_test

import (
	"bytes"
	"compress/flate"
	"math/rand"
	"strings"
	"testing"

	"spool/api"
	"spool/spool"
)

// same asks that Inflate answers what the model does.
func same(t *testing.T, b []byte, limit int) api.Errno {
	t.Helper()
	out, n, e := spool.Inflate(b, limit)
	wantOut, wantN, wantE := modelInflate(b, limit)
	if !bytes.Equal(out, wantOut) || n != wantN || e != wantE {
		t.Fatalf("Inflate(%s, %d) = %.40q, %d, %d, want %.40q, %d, %d", short(b), limit, out, n, e, wantOut, wantN, wantE)
	}
	return e
}

func TestP3ModelShortBytes(t *testing.T) {
	same(t, nil, 9)
	for a := range 256 {
		same(t, []byte{byte(a)}, 9)
		for b := range 256 {
			same(t, []byte{byte(a), byte(b)}, 1)
		}
	}
}

// squeezed gives streams of the library's own, of every kind of block.
func squeezed(text string) [][]byte {
	var all [][]byte
	for _, level := range []int{flate.HuffmanOnly, 0, 1, 6, 9} {
		var b bytes.Buffer
		w, _ := flate.NewWriter(&b, level)
		w.Write([]byte(text[:len(text)/2]))
		w.Flush()
		w.Write([]byte(text[len(text)/2:]))
		w.Close()
		all = append(all, b.Bytes())
	}
	return all
}

func texts() []string {
	random := rand.New(rand.NewSource(2))
	noise := make([]byte, 400)
	random.Read(noise)
	words := ""
	for range 120 {
		words += strings.Fields("to be or not that is the question whether")[random.Intn(9)] + " "
	}
	return []string{"", "a", "abracadabra abracadabra", strings.Repeat("\x00", 700), string(noise), words, words + string(noise[:50]) + words}
}

func TestP3ModelPublished(t *testing.T) {
	for _, text := range texts() {
		for _, b := range squeezed(text) {
			inflates(t, b, len(text), text, len(b))
			for cut := 0; cut <= len(b); cut += 1 + len(b)/50 {
				same(t, b[:cut], 60000)
			}
			for limit := 0; limit <= len(text); limit += 1 + len(text)/20 {
				same(t, b, limit)
			}
		}
	}
}

func TestP3ModelSpoilt(t *testing.T) {
	random := rand.New(rand.NewSource(3))
	for _, text := range texts() {
		for _, b := range squeezed(text) {
			for range 150 {
				spoilt := bytes.Clone(b)
				for range 1 + random.Intn(3) {
					spoilt[random.Intn(min(len(b), 1+random.Intn(len(b))))] ^= 1 << random.Intn(8)
				}
				same(t, spoilt, []int{60000, len(text), random.Intn(len(text) + 1)}[random.Intn(3)])
			}
		}
	}
}

func TestP3ModelDynamic(t *testing.T) {
	random := rand.New(rand.NewSource(4))
	told := map[api.Errno]int{}
	for range 6000 {
		words := dynamicWords(random)
		b := stream("1:0 2:1 01111000 01111001 0000000 " + words)
		if random.Intn(4) == 0 {
			b[random.Intn(len(b))] ^= 1 << random.Intn(8)
		}
		if random.Intn(4) == 0 {
			b = b[:random.Intn(len(b))]
		}
		told[same(t, b, []int{2, 9, 60000, 60000}[random.Intn(4)])]++
	}
	for _, e := range []api.Errno{api.OK, api.ErrShort, api.ErrData, api.ErrLimit} {
		if told[e] < 200 {
			t.Errorf("the blocks are too much alike: %v", told)
		}
	}
}
