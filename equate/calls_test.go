package equate

import (
	"fmt"
	"math"
	"slices"
	"strings"
	"sync"
	"testing"

	"equate/api"
)

func TestNoSuchMode(t *testing.T) {
	for _, mode := range []int{-1, -2, 4, 5, 256, 1 << 32, -1 << 32, math.MinInt, math.MaxInt} {
		for _, text := range []string{"", "a", "\u1ead", "\xff", strings.Repeat("\u0301", 1000)} {
			if key, e := Key(mode, text); key != "" || e != api.ErrMode {
				t.Errorf("P1: Key(%d, %+.20q) = %+q, %d", mode, text, key, e)
			}
			if h, e := Hash(mode, text); h != 0 || e != api.ErrMode {
				t.Errorf("P1: Hash(%d, %+.20q) = %d, %d", mode, text, h, e)
			}
			if cuts, e := Cuts(mode, text+"ab"); len(cuts) != 0 || e != api.ErrMode {
				t.Errorf("P1: Cuts(%d, %+.20q) = %v, %d", mode, text+"ab", cuts, e)
			}
			for _, other := range []string{"", "a", "b"} {
				if n, e := Compare(mode, text, other); n != 0 || e != api.ErrMode {
					t.Errorf("P1: Compare(%d, %+.20q, %q) = %d, %d", mode, text, other, n, e)
				}
			}
		}
	}
}

func TestNoSuchModeOfSources(t *testing.T) {
	lists := [][]api.Chunk{nil, {}, chunks("a"), chunks("b\u0301", "c"), chunks(fails), chunks(above), chunks(below), empty(64), chunks("\xc3", fails)}
	for _, mode := range []int{-1, -2, 4, 5, 256, 1 << 32, -1 << 32, math.MinInt, math.MaxInt} {
		for _, a := range lists {
			if h, e := Digest(mode, a); h != 0 || e != api.ErrMode {
				t.Errorf("P1: Digest(%d, %s) = %d, %d", mode, told(a), h, e)
			}
			for _, b := range lists {
				if o, e := Stream(mode, a, b); o != (api.Outcome{}) || e != api.ErrMode {
					t.Errorf("P1: Stream(%d, %s, %s) = %+v, %d", mode, told(a), told(b), o, e)
				}
			}
		}
	}
}

// brokenTexts begins and breaks off code points in every way that matters.
func brokenTexts() []string {
	edges := []byte{0x00, 'A', 0x7F, 0x80, 0x8F, 0x90, 0x9F, 0xA0, 0xBF, 0xC0, 0xC2, 0xCC, 0xDF, 0xE0, 0xED, 0xEF, 0xF0, 0xF4, 0xF5, 0xFF}
	list := []string{""}
	for b := range 256 {
		list = append(list, string([]byte{byte(b)}))
	}
	for _, a := range edges {
		for _, b := range edges {
			list = append(list, string([]byte{a, b}))
			for _, c := range edges {
				list = append(list, string([]byte{a, b, c}))
			}
		}
	}
	return list
}

func TestNoBytesPanic(t *testing.T) {
	ref := newReference()
	texts := brokenTexts()
	texts = append(texts, strings.Join(texts, ""), strings.Join(texts, "\u0301"), strings.Repeat("\xe2", 1<<16))
	for i, text := range texts {
		other := texts[(i+1)%len(texts)]
		for _, mode := range modes {
			if key, e := Key(mode, text); key != ref.key(mode, text) || e != api.OK {
				t.Errorf("P1, P3: Key(%d, %+.40q) = %+.40q, %d", mode, text, key, e)
			}
			if _, e := Hash(mode, text); e != api.OK {
				t.Errorf("P1: Hash(%d, %+.40q): %d", mode, text, e)
			}
			if _, e := Cuts(mode, text); e != api.OK {
				t.Errorf("P1: Cuts(%d, %+.40q): %d", mode, text, e)
			}
			if n, e := Compare(mode, text, other); n != ref.compare(mode, text, other) || e != api.OK {
				t.Errorf("P1, P5: Compare(%d, %+.40q, %+.40q) = %d, %d", mode, text, other, n, e)
			}
		}
	}
}

func TestNoChunksPanic(t *testing.T) {
	ref := newReference()
	texts := brokenTexts()
	for i, text := range texts {
		other := texts[(i*7+1)%len(texts)]
		mode := modes[i%4]
		for _, list := range [][]api.Chunk{chunks(text, other), bytewise(text + other), chunks(text, fails), chunks(text, api.Chunk{Kind: i - 3, Text: other})} {
			want, wantE := ref.stream(mode, list, chunks(other, text))
			if got, e := Stream(mode, list, chunks(other, text)); got != want || e != wantE {
				t.Errorf("P1, P7, P8: Stream(%d, %s, %s) = %+v, %d, want %+v, %d", mode, told(list), told(chunks(other, text)), got, e, want, wantE)
			}
			Digest(mode, list)
		}
	}
	many := chunks(bytewise(strings.Join(texts, "")), bytewise(strings.Join(texts, "\u0301")), strings.Repeat("\xe2", 1<<16))
	for _, mode := range modes {
		if o, e := Stream(mode, many, many); o.Sign != 0 || o.ReadA != len(many) || o.ReadB != len(many) || e != api.OK {
			t.Errorf("P1, P7: Stream(%d) of %d chunks: %+v, %d", mode, len(many), o, e)
		}
	}
}

type answer struct {
	key    string
	hash   uint64
	cuts   string
	sign   int
	whole  api.Outcome
	broken api.Outcome
	digest uint64
	errs   [8]api.Errno
}

// ask writes into the list of cuts and its spare room, which no other answer may share.
func ask(mode int, text string) answer {
	key, e := Key(mode, text)
	hash, f := Hash(mode, text)
	cuts, g := Cuts(mode, text)
	sign, h := Compare(mode, text, "a\u0301")
	cutsTold := fmt.Sprint(cuts)
	for i := range cuts[:cap(cuts)] {
		cuts[:cap(cuts)][i] = -7
	}
	whole, i := Stream(mode, bytewise(text), chunks("a", "\u0301"))
	broken, j := Stream(mode, chunks(text, fails), chunks(text))
	digest, k := Digest(mode, bytewise(text))
	_, l := Digest(mode, chunks(text, above))
	return answer{key, hash, cutsTold, sign, whole, broken, digest, [8]api.Errno{e, f, g, h, i, j, k, l}}
}

type question struct {
	mode int
	text string
}

// questions leave marks and broken bytes at the ends of their texts, which a later call must not see.
func questions() []question {
	var list []question
	for mode := -1; mode <= 4; mode++ {
		for _, text := range []string{"", "a", "\u0301", "a\u0301\u0323", "b\u0301c", "\xe2\x82", "\xac", "Stra\u00dfe", "\u0345\uff9e", "\u0f73", "\ud7a3", "\U0001d400"} {
			list = append(list, question{mode, text})
		}
	}
	return list
}

func TestAnswersHangOnTheArgumentsAlone(t *testing.T) {
	list := questions()
	first := map[question]answer{}
	for _, q := range list {
		first[q] = ask(q.mode, q.text)
	}
	for _, ahead := range list {
		for _, q := range list {
			ask(ahead.mode, ahead.text)
			if got := ask(q.mode, q.text); got != first[q] {
				t.Errorf("P2: %v behind %v: %v, at first %v", q, ahead, got, first[q])
			}
		}
	}
}

func TestCallsAtTheSameTime(t *testing.T) {
	list := questions()
	want := make([]answer, len(list))
	for i, q := range list {
		want[i] = ask(q.mode, q.text)
	}
	var group sync.WaitGroup
	for range 8 {
		group.Go(func() {
			for i, q := range list {
				if got := ask(q.mode, q.text); got != want[i] {
					t.Errorf("P2: %v beside others: %v, alone %v", q, got, want[i])
				}
			}
		})
	}
	group.Wait()
}

func TestListsAreNotWrittenInto(t *testing.T) {
	whole := chunks("a\u0301", "", "\xc3", "\xa9", "\u0345\u0323", "B\uff9e", fails, "x", above, empty(70), "y")
	kept := slices.Clone(whole)
	for _, mode := range append([]int{-1, 4}, modes...) {
		for n := range len(whole) + 1 {
			// What stands behind the list is its spare room.
			list := whole[:n]
			Stream(mode, list, list)
			Stream(mode, list, chunks("a\u0301\u00e9", "x"))
			Stream(mode, chunks("a\u0301\u00e9", "x"), list)
			Digest(mode, list)
			if !slices.Equal(whole, kept) {
				t.Fatalf("P2: mode %d, the first %d chunks: there is now %s", mode, n, told(whole))
			}
		}
	}
}

func TestWhatStandsBehindAListIsNotRead(t *testing.T) {
	for _, behind := range [][]api.Chunk{{fails}, {above}, chunks("z"), chunks("\u0301"), empty(64), chunks("\xa9")} {
		for _, c := range []struct{ a, b []api.Chunk }{
			{nil, nil}, {chunks("a"), chunks("a")}, {chunks("a\u0301"), chunks("\u00e1")}, {chunks("\xc3"), chunks("\xff")}, {empty(63), empty(63)}, {chunks("a"), chunks("ab")},
		} {
			a, b := chunks(c.a, behind)[:len(c.a)], chunks(c.b, behind)[:len(c.b)]
			for _, mode := range modes {
				want, _ := Stream(mode, c.a, c.b)
				if got, e := Stream(mode, a, b); got != want || e != api.OK {
					t.Errorf("P2: Stream(%d, %s, %s) = %+v, %d with something behind, without %+v", mode, told(a), told(b), got, e, want)
				}
				hash, _ := Digest(mode, c.a)
				if got, e := Digest(mode, a); got != hash || e != api.OK {
					t.Errorf("P2: Digest(%d, %s) = %d, %d with something behind, without %d", mode, told(a), got, e, hash)
				}
			}
		}
	}
}
