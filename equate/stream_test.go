package equate

import (
	"math/rand"
	"strings"
	"testing"

	"equate/api"
)

type streamCase struct {
	a, b []api.Chunk
	want api.Outcome
}

func outcome(sign, readA, readB, heldA, heldB int) api.Outcome {
	return api.Outcome{Sign: sign, ReadA: readA, ReadB: readB, HeldA: heldA, HeldB: heldB}
}

// checkStream also asks with the sources changed about: that holds for all that reads as much of each either way.
func checkStream(t *testing.T, modes []int, cases []streamCase) {
	t.Helper()
	for _, c := range cases {
		turned := outcome(-c.want.Sign, c.want.ReadB, c.want.ReadA, c.want.HeldB, c.want.HeldA)
		for _, mode := range modes {
			if got, e := Stream(mode, c.a, c.b); got != c.want || e != api.OK {
				t.Errorf("P7: Stream(%d, %s, %s) = %+v, %d, want %+v", mode, told(c.a), told(c.b), got, e, c.want)
			}
			if got, e := Stream(mode, c.b, c.a); got != turned || e != api.OK {
				t.Errorf("P7: Stream(%d, %s, %s) = %+v, %d, want %+v", mode, told(c.b), told(c.a), got, e, turned)
			}
		}
	}
}

func TestStreamExamples(t *testing.T) {
	checkStream(t, modes, []streamCase{
		{chunks("a", "b", fails), chunks("a", "c"), outcome(-1, 2, 2, 0, 0)},
		{chunks("a", "\u0301", "x", fails), chunks("a", "\u0323", "x"), outcome(-1, 3, 3, 1, 1)},
		{chunks("\xc3", "\xa9"), chunks("\u00e9"), outcome(0, 2, 1, 1, 1)},
	})
}

func TestStreamOfListsWithoutAChunk(t *testing.T) {
	checkStream(t, modes, []streamCase{
		{nil, nil, outcome(0, 0, 0, 0, 0)},
		{nil, []api.Chunk{}, outcome(0, 0, 0, 0, 0)},
		{nil, chunks(""), outcome(0, 0, 1, 0, 0)},
		{nil, chunks("", "", ""), outcome(0, 0, 3, 0, 0)},
		{nil, chunks("a", fails), outcome(-1, 0, 1, 0, 0)},
		{nil, chunks("", "a", fails), outcome(-1, 0, 2, 0, 0)},
		{nil, chunks("\x00"), outcome(-1, 0, 1, 0, 0)},
		{nil, chunks("\u0301"), outcome(-1, 0, 1, 0, 1)},
		{nil, chunks("\xc3"), outcome(-1, 0, 1, 0, 0)},
	})
}

func TestStreamOfBeginnings(t *testing.T) {
	checkStream(t, modes, []streamCase{
		{chunks("a"), chunks("a"), outcome(0, 1, 1, 0, 0)},
		{chunks("a"), chunks("ab", fails), outcome(-1, 1, 1, 0, 0)},
		{chunks("a"), chunks("a", "b", fails), outcome(-1, 1, 2, 0, 0)},
		{chunks("a", ""), chunks("a", "b", fails), outcome(-1, 2, 2, 0, 0)},
		{chunks("a"), chunks("a\u0301"), outcome(-1, 1, 1, 0, 1)},
		{chunks("a"), chunks("a", "\u0301", "b", fails), outcome(-1, 1, 3, 0, 1)},
		{chunks("a\u0301"), chunks("a\u0301\u0300"), outcome(-1, 1, 1, 1, 2)},
		{chunks("\u1100"), chunks("\uac00", fails), outcome(-1, 1, 1, 0, 0)},
		{chunks("ab", "cd", "ef"), chunks("a", "bcd", "e", "f"), outcome(0, 3, 4, 0, 0)},
	})
}

func TestStreamSign(t *testing.T) {
	for _, c := range []struct {
		a, b  string
		signs [4]int
	}{
		{"a", "b", [4]int{-1, -1, -1, -1}}, {"A", "a", [4]int{-1, -1, 0, 0}}, {"\u212b", "a\u030a", [4]int{-1, -1, 0, 0}}, {"\ufb01", "fi", [4]int{1, 0, 0, 0}},
		{"\U0001d400", "A", [4]int{1, 0, 1, 0}}, {"\uff21", "\uff41", [4]int{-1, -1, 0, 0}}, {"\u03b1\u0345\uff9e", "\u03b1\u3099\u0345", [4]int{-1, 0, -1, -1}},
		{"\uffff", "\U00010000", [4]int{-1, -1, -1, -1}}, {"\xff", "\xc3", [4]int{0, 0, 0, 0}}, {"\u017f", "s", [4]int{1, 0, 0, 0}}, {"\u2460", "1", [4]int{1, 0, 1, 0}},
		{"\u0345\u0301", "\u0301\u0345", [4]int{0, 0, 0, 0}}, {"\u0345", "\u03b9", [4]int{-1, -1, 0, 0}},
	} {
		for mode, want := range c.signs {
			if got, e := Stream(mode, chunks(c.a), chunks(c.b)); got.Sign != want || e != api.OK {
				t.Errorf("P7: Stream(%d, %+q, %+q): Sign %d, %d, want %d", mode, c.a, c.b, got.Sign, e, want)
			}
			if got, e := Stream(mode, chunks(c.b), chunks(c.a)); got.Sign != -want || e != api.OK {
				t.Errorf("P7: Stream(%d, %+q, %+q): Sign %d, %d, want %d", mode, c.b, c.a, got.Sign, e, -want)
			}
		}
	}
}

func TestStreamReadsNoMoreThanItMust(t *testing.T) {
	checkStream(t, modes, []streamCase{
		{chunks("a", fails), chunks("b", fails), outcome(-1, 1, 1, 0, 0)},
		{chunks("", "", "a", above), chunks("b", below), outcome(-1, 3, 1, 0, 0)},
		{chunks("abc", fails), chunks("a", "b", "d", fails), outcome(-1, 1, 3, 0, 0)},
		{chunks("abc", "d", "f", fails), chunks("ab", "cde", fails), outcome(1, 3, 2, 0, 0)},
		{chunks("ab", fails), chunks("", "ac", fails), outcome(-1, 1, 2, 0, 0)},
	})
}

func TestStreamOfCodePointsInSeveralChunks(t *testing.T) {
	checkStream(t, modes, []streamCase{
		{chunks("\xe2", "\x82", "\xac", "x", fails), chunks("\u20ac", "y", fails), outcome(-1, 4, 2, 0, 0)},
		{chunks("\xf4", "\x8f", "\xbf", "\xbf"), chunks("\xf4\x8f\xbf", "\xbf"), outcome(0, 4, 2, 0, 0)},
		{chunks("a\xc3", "", "\xa9b"), chunks("ae", "\xcc", "\x81b"), outcome(0, 3, 3, 1, 1)},
		{chunks("a", "\xcc", "\x81", "b", fails), chunks("a\u0301", "a", fails), outcome(1, 4, 2, 1, 1)},
		{chunks("a\xe2\x82", fails), chunks("b", fails), outcome(-1, 1, 1, 0, 0)}, // what waits is not needed
	})
}

func TestStreamOfCodePointsThatAreNeverFinished(t *testing.T) {
	checkStream(t, modes, []streamCase{
		{chunks("\xc3"), chunks("\ufffd", "a", fails), outcome(-1, 1, 2, 0, 0)},
		{chunks("\xe2\x82"), chunks("\xe2", "\x82"), outcome(0, 1, 2, 0, 0)},
		{chunks("\xf0", "\x9d", "\x90"), chunks("\xff\xff", "\xff"), outcome(0, 3, 2, 0, 0)},
		{chunks("\xc3", "a", fails), chunks("b", fails), outcome(1, 2, 1, 0, 0)},
		{chunks("\xe2", "\x82", "a", fails), chunks("\ufffd\ufffdb", fails), outcome(-1, 3, 1, 0, 0)},
		{chunks("\xe2", "\xe2\x82", "\xac"), chunks("\ufffd\u20ac"), outcome(0, 3, 1, 0, 0)},
		{chunks("\xff", fails), chunks("a", fails), outcome(1, 1, 1, 0, 0)},     // no beginning of anything: it does not wait
		{chunks("\xe2\x28", fails), chunks("a", fails), outcome(1, 1, 1, 0, 0)}, // nor is this one any more
		{chunks("\xed\xa0", fails), chunks("a", fails), outcome(1, 1, 1, 0, 0)},
		{chunks("\xe0\x9f", fails), chunks("a", fails), outcome(1, 1, 1, 0, 0)},
		{chunks("\xf0\x8f", fails), chunks("a", fails), outcome(1, 1, 1, 0, 0)},
		{chunks("\xf4\x90", fails), chunks("a", fails), outcome(1, 1, 1, 0, 0)},
		{chunks("\xf0\x9d\x28", fails), chunks("a", fails), outcome(1, 1, 1, 0, 0)},
		{chunks("a\u0301", "\xc3"), chunks("a\u0301\xff", "b", fails), outcome(-1, 2, 2, 1, 1)}, // it is a starter, and parts the marks
	})
}

func TestStreamOfMarksThatWait(t *testing.T) {
	checkStream(t, modes, []streamCase{
		{chunks("a", "\u0301", "\u0323", "b"), chunks("a\u0323\u0301", "b"), outcome(0, 4, 2, 2, 2)},
		{chunks("a", "\u0301", "\u0323"), chunks("a\u0323\u0301"), outcome(0, 3, 1, 2, 2)}, // they wait till the end
		{chunks("a", "\u0301", "", "\u0300", "b", fails), chunks("a", "\u0301", "c", fails), outcome(1, 5, 3, 2, 1)},
		{chunks("\u0301", "\u0323", "a", fails), chunks("\u0301", "b", fails), outcome(1, 3, 2, 2, 1)}, // nothing ahead of them
		{chunks("\u00e9", "\u0323", "x", fails), chunks("e", "\u0323", "\u0301", "y", fails), outcome(-1, 3, 4, 2, 2)},
		{chunks("a\u0301", fails), chunks("b", fails), outcome(-1, 1, 1, 1, 0)},
		{chunks("a", "\u0f73", "\u0338", "x"), chunks("a\u0338\u0f71\u0f72x"), outcome(0, 4, 1, 3, 3)},
	})
}

func TestStreamOfMarksThatWaitInALaterStage(t *testing.T) {
	// U+FF9E is a starter canonically: in AlikeCase it is the second stage where it becomes a mark.
	checkStream(t, []int{api.Alike, api.AlikeCase}, []streamCase{
		{chunks("\u30cf", "\uff9e", "x", fails), chunks("\u30cf\u3099", "y", fails), outcome(-1, 3, 2, 1, 1)},
		{chunks("\u30cf", "\uff9e"), chunks("\u30d0"), outcome(0, 2, 1, 1, 1)},
		{chunks("\u30cf\uff9e", "\u0338", "a"), chunks("\u30cf\u0338\u3099a"), outcome(0, 3, 1, 2, 2)},
		{chunks("\u30cf\uff9e", "\u0338"), chunks("\u30cf\u0338\uff9e"), outcome(0, 2, 1, 2, 2)}, // the first stage's mark joins the second's at the end
		{chunks("\u30cf\uff9e\uff9e", "\uff9e"), chunks("\u30cf"), outcome(1, 2, 1, 3, 0)},
	})
	checkStream(t, []int{api.Same, api.SameCase}, []streamCase{
		{chunks("\u30cf", "\uff9e", fails), chunks("\u30cf", "\u3099", "x", fails), outcome(1, 2, 3, 0, 1)},
		{chunks("\u30cf\uff9e", "\u0338"), chunks("\u30cf\u0338\uff9e"), outcome(1, 1, 1, 0, 1)},
	})
	// U+0345 is a mark in the first stage; folded it is a starter.
	checkStream(t, []int{api.SameCase, api.AlikeCase}, []streamCase{
		{chunks("\u03b1", "\u0345", "x", fails), chunks("\u03b1", "\u03b9", "y", fails), outcome(-1, 3, 3, 1, 0)},
		{chunks("\u03b1\u0345\u0345\u0301", "x"), chunks("\u03b1\u0301\u03b9\u03b9", "y", fails), outcome(-1, 2, 2, 3, 1)},
	})
}

func TestStreamHeld(t *testing.T) {
	const many = 20000
	checkStream(t, modes, []streamCase{
		{chunks("b\u0301\u0323\u0327", fails), chunks("a", fails), outcome(1, 1, 1, 3, 0)}, // marks of a chunk that was read, though it was decided ahead of them
		{chunks("b", "\u0301"), chunks("a", fails), outcome(1, 1, 1, 0, 0)},                // marks that were not read
		{chunks("a\u0301\u0300b\u0301", "c"), chunks("a\u0301\u0300b\u0301c"), outcome(0, 2, 1, 2, 2)},
		{chunks("a\u0301b\u0323c\u0327d"), chunks("a\u0301b\u0323c\u0327e"), outcome(-1, 1, 1, 1, 1)}, // one at a time
		{chunks("x\u0301y\u0301\u0300"), chunks("x\u0301y"), outcome(1, 1, 1, 2, 1)},
		{chunks("x\u0301\u0300y\u0301"), chunks("x"), outcome(1, 1, 1, 2, 0)},
		{chunks("x\u0344"), chunks("x\u1ead"), outcome(1, 1, 1, 2, 2)}, // out of decompositions
		{chunks("\u0f73"), chunks("\u0f71"), outcome(1, 1, 1, 2, 1)},
		{chunks("a\u0301", "\u0323", "\u0301"), chunks("a"), outcome(1, 3, 1, 3, 0)},
		{chunks("a\u0301", "\xc3"), chunks("a"), outcome(1, 2, 1, 1, 0)},
		{chunks("a", strings.Repeat("\u0301\u0323", many), "b"), chunks("a"), outcome(1, 3, 1, 2*many, 0)},
	})
}

func TestStreamOfEmptyChunks(t *testing.T) {
	checkStream(t, modes, []streamCase{
		{chunks(""), chunks("", ""), outcome(0, 1, 2, 0, 0)},
		{chunks("", "a", "", "b", ""), chunks("ab"), outcome(0, 5, 1, 0, 0)},
		{chunks("a", "", "\u0301", "", "b", "", fails), chunks("a\u0301c", fails), outcome(-1, 5, 1, 1, 1)},
		{chunks("\xc3", "", "", "\xa9", "x", fails), chunks("\u00e9y", fails), outcome(-1, 5, 1, 1, 1)},
	})
}

func TestStreamStopsWhereItIsDecided(t *testing.T) {
	for _, c := range []streamCase{
		{chunks("a"), chunks("b"), outcome(-1, 1, 1, 0, 0)},
		{chunks("", "ab\u0301x"), chunks("ab", "c"), outcome(1, 2, 2, 1, 0)},
		{chunks("a", "\u0301", "x"), chunks("a\u0301\u0300", "x"), outcome(-1, 3, 2, 1, 2)},
		{chunks("\xe2", "\x82", "\xac"), chunks("\u20ad"), outcome(-1, 3, 1, 0, 0)},
	} {
		for _, behind := range [][]api.Chunk{{fails}, {above}, {below}, empty(100), chunks("z"), chunks("\u0301"), chunks("\x80")} {
			checkStream(t, modes, []streamCase{{chunks(c.a, behind), chunks(c.b, behind), c.want}})
		}
	}
}

func TestStreamOfLongSources(t *testing.T) {
	const n = 5000
	one, other := strings.Repeat("\u00e9\u0323A", n), strings.Repeat("e\u0301\u0323A", n)
	checkStream(t, modes, []streamCase{
		{bytewise(one), chunks(other), outcome(0, len(one), 1, 2, 2)},
		{chunks(bytewise(one+"x"), fails), chunks(bytewise(other+"y"), fails), outcome(-1, len(one)+1, len(other)+1, 2, 2)},
	})
}

func TestStreamOfMixedSources(t *testing.T) {
	ref := newReference()
	texts := mixedTexts(ref, 3000)
	same := rand.New(rand.NewSource(3))
	for i, text := range texts {
		other := texts[same.Intn(len(texts))]
		switch cut := same.Intn(len(text) + 1); i % 4 {
		case 1: // they begin alike
			other = text[:cut] + other
		case 2: // one is a beginning of the other, in bytes
			other = text[:cut]
		case 3: // they are the same, or end otherwise
			other = ref.key(same.Intn(4), text) + other[:same.Intn(2)*len(other)]
		}
		a, b := anyhow(text, same), anyhow(other, same)
		if same.Intn(3) == 0 {
			a = spoiled(a, same)
		}
		if same.Intn(3) == 0 {
			b = spoiled(b, same)
		}
		for _, mode := range modes {
			want, wantE := ref.stream(mode, a, b)
			if got, e := Stream(mode, a, b); got != want || e != wantE {
				t.Errorf("P7, P8: Stream(%d, %s, %s) = %+v, %d, want %+v, %d", mode, told(a), told(b), got, e, want, wantE)
			}
		}
	}
}
