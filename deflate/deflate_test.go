package deflate

import (
	"bytes"
	"math/rand"
	"slices"
	"strings"
	"testing"

	"spool/api"
	"spool/codes"
	"spool/inflate"
)

// row tells lengths from runs, as a reader does.
func row(all []run) []int {
	var out []int
	for _, r := range all {
		length, times := r.symbol, 1
		switch r.symbol {
		case codes.Again:
			length, times = out[len(out)-1], 3+r.rest
		case codes.Zeros:
			length, times = 0, 3+r.rest
		case codes.ManyZeros:
			length, times = 0, 11+r.rest
		}
		for range times {
			out = append(out, length)
		}
	}
	return out
}

func TestRuns(t *testing.T) {
	for _, length := range []int{0, 1, 15} {
		for times := 1; times < 320; times++ {
			for _, around := range [][]int{nil, {0}, {7}, {15, 15}, {0, 0, 0}} {
				lengths := slices.Concat(around, slices.Repeat([]int{length}, times), around)
				all := runs(lengths)
				if got := row(all); !slices.Equal(got, lengths) {
					t.Fatalf("%v is told as %v", lengths, all)
				}
				for _, r := range all {
					if r.rest < 0 || r.rest >= 1<<r.more {
						t.Fatalf("%v is told as %v: a number without room", lengths, all)
					}
				}
			}
		}
	}
	for _, x := range []struct {
		length, times, symbols int
	}{{0, 2, 2}, {0, 3, 1}, {0, 10, 1}, {0, 11, 1}, {0, 138, 1}, {0, 139, 2}, {5, 3, 3}, {5, 4, 2}, {5, 7, 2}, {5, 8, 3}, {5, 13, 3}} {
		if all := runs(slices.Repeat([]int{x.length}, x.times)); len(all) != x.symbols {
			t.Errorf("%d times %d is told by %v, want %d symbols", x.times, x.length, all, x.symbols)
		}
	}
}

func TestCut(t *testing.T) {
	for _, x := range []struct {
		lengths []int
		least   int
		want    int
	}{{[]int{1, 0, 2, 0, 0}, 1, 3}, {[]int{1, 0, 2, 0, 0}, 4, 4}, {[]int{1, 0, 2, 0, 0}, 5, 5}, {[]int{0, 0}, 1, 1}, {[]int{3}, 1, 1}} {
		if got := cut(x.lengths, x.least); len(got) != x.want {
			t.Errorf("cut(%v, %d) = %v", x.lengths, x.least, got)
		}
	}
}

// spread gives the bytes that come out of tokens.
func spread(tokens []token) []byte {
	var out []byte
	for _, t := range tokens {
		if t.length == 0 {
			out = append(out, t.literal)
		}
		for range t.length {
			out = append(out, out[len(out)-t.distance])
		}
	}
	return out
}

func TestRepeats(t *testing.T) {
	random := rand.New(rand.NewSource(1))
	for range 400 {
		b := make([]byte, random.Intn(2000))
		kinds := 1 + random.Intn(40)
		for i := range b {
			b[i] = byte(random.Intn(kinds))
		}
		for level := 1; level <= 9; level++ {
			tokens := repeats(b, level)
			if !bytes.Equal(spread(tokens), b) {
				t.Fatalf("level %d: of %v comes %v", level, b, spread(tokens))
			}
			for _, x := range tokens {
				if x.length != 0 && (x.length < 3 || x.length > 258 || x.distance < 1 || x.distance > 32768) {
					t.Fatalf("level %d: the token %v", level, x)
				}
			}
		}
	}
}

func TestRepeatsAreTaken(t *testing.T) {
	noise := make([]byte, 600)
	rand.New(rand.NewSource(2)).Read(noise)
	apart := func(text string, gap int) []byte { return []byte(text + strings.Repeat("-", gap) + text) }
	for _, x := range []struct {
		b     []byte
		level int
		want  token
	}{
		{[]byte("abcabc"), 1, token{'a', 3, 3}},
		{[]byte("abcdeabcd"), 1, token{'a', 4, 5}},
		{[]byte("aaaaaaaaa"), 1, token{'a', 8, 1}},
		{slices.Concat(noise[:257], noise[:257]), 1, token{noise[0], 257, 257}},
		{slices.Concat(noise[:258], noise[:258]), 1, token{noise[0], 258, 258}},
		{[]byte("abcxxabcyabcz"), 9, token{'a', 3, 4}},                  // the nearest of equals
		{[]byte("abcdxabcyabcd"), 9, token{'a', 4, 9}},                  // the longest, though farther
		{[]byte("xabc bcdef abcdef"), 9, token{'b', 5, 7}},              // one byte later there is a longer one
		{[]byte("xabc bcdef abcdef"), 3, token{'d', 3, 7}},              // which the low levels do not wait for
		{[]byte("abcdef1abc2abc3abc4abcdef"), 1, token{'a', 6, 19}},     // the fourth place that is tried
		{[]byte("abcdef1abc2abc3abc4abc5abcdef"), 1, token{'d', 3, 23}}, // the fifth is not
		{[]byte("abcdef1abc2abc3abc4abc5abcdef"), 2, token{'a', 6, 23}}, // but on the next level
		{apart("abc", 4093), 9, token{'a', 3, 4096}},                    // as far as it is worth it
		{apart("abcd", 29992), 9, token{'a', 4, 29996}},
	} {
		tokens := repeats(x.b, x.level)
		if !slices.Contains(tokens, x.want) || !bytes.Equal(spread(tokens), x.b) {
			t.Errorf("%.40q, level %d: %v is not among the tokens %v", x.b, x.level, x.want, tokens[max(0, len(tokens)-9):])
		}
	}
	if tokens := repeats(apart("abc", 4094), 9); tokens[len(tokens)-1].length != 0 {
		t.Errorf("three bytes from too far: %v", tokens)
	}
}

// writes asks that the tokens' bytes come out of streams of them.
func writes(t *testing.T, tokens []token) {
	t.Helper()
	want := spread(tokens)
	for _, s := range [][]byte{fixedStream(tokens), dynamicStream(tokens)} {
		if out, n, e := inflate.Stream(s, api.MaxOut); !bytes.Equal(out, want) || n != len(s) || e != api.OK {
			t.Fatalf("%d bytes came out of %d, want %d of %d; error %d", len(out), n, len(want), len(s), e)
		}
	}
}

func TestTokensOfAllLengthsAndDistances(t *testing.T) {
	random := rand.New(rand.NewSource(5))
	tokens := singles([]byte("spool"))
	for length := 3; length <= 258; length++ {
		tokens = append(tokens, token{length: length, distance: 1 + random.Intn(5)})
	}
	writes(t, tokens)
	for distance := 1; distance <= 32768; distance += 1 + random.Intn(distance) {
		tokens = append(tokens, token{length: 3, distance: distance})
	}
	for symbol := range codes.Distances {
		least, more := codes.Distance(symbol)
		tokens = append(tokens, token{length: 3, distance: least}, token{length: 4, distance: least + 1<<more - 1})
	}
	writes(t, tokens)
}

// TestDeepDistances: each distance comes as often as the two ahead together, which asks for longer codes than there are.
func TestDeepDistances(t *testing.T) {
	for many := 1; many <= 20; many++ {
		tokens := singles(make([]byte, 1000))
		for i, a, b := 0, 1, 1; i < many; i, a, b = i+1, b, a+b {
			least, _ := codes.Distance(i)
			tokens = append(tokens, slices.Repeat([]token{{length: 3, distance: least}}, a)...)
		}
		writes(t, tokens)
	}
}

// TestStreamIsTheShortest: each of the ways is the best one for some bytes.
func TestStreamIsTheShortest(t *testing.T) {
	random := rand.New(rand.NewSource(4))
	noise, skewed := make([]byte, 400), make([]byte, 400)
	random.Read(noise)
	for i := range skewed {
		skewed[i] = byte(random.Intn(1 + random.Intn(60)))
	}
	words := []byte(strings.Repeat("to be or not to be, that is the question. ", 30))
	best := map[int]bool{}
	for _, b := range [][]byte{nil, noise, skewed, words, []byte("spool"), []byte("spool spool"), slices.Concat(noise, skewed, words), slices.Concat(skewed, skewed)} {
		got, _ := Stream(b, 6)
		ways := [][]byte{storedStream(b), fixedStream(singles(b)), dynamicStream(singles(b)), fixedStream(repeats(b, 6)), dynamicStream(repeats(b, 6))}
		for _, s := range ways {
			if len(got) > len(s) {
				t.Errorf("%.40q: %d bytes, but there is a stream of %d", b, len(got), len(s))
			}
		}
		best[slices.IndexFunc(ways, func(s []byte) bool { return bytes.Equal(s, got) })] = true
	}
	if len(best) != 5 {
		t.Errorf("the bytes are too much alike: %v", best)
	}
}

// TestSinglesOfTwoKinds: without any repeat, too, two kinds of bytes keep to P6, so repeats can't spoil it.
func TestSinglesOfTwoKinds(t *testing.T) {
	random := rand.New(rand.NewSource(3))
	for n := 0; n <= 30000; n += 1 + n/3 {
		for range 20 {
			kinds := []byte{byte(random.Intn(256)), byte(random.Intn(256))}
			b := make([]byte, n)
			for i := range b {
				b[i] = kinds[random.Intn(2)]
			}
			if got := len(dynamicStream(singles(b))); got > 30+3*n/16 {
				t.Fatalf("%d bytes of the kinds %v: %d bytes", n, kinds, got)
			}
		}
	}
}
