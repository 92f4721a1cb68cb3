package equate

import (
	"math/rand"
	"strings"
	"testing"

	"equate/api"
)

// sames are texts of which many are the same, in one mode or another.
var sames = []string{
	"", "a", "A", "\uff21", "\U0001d400", "\u00c5", "\u212b", "A\u030a", "\u00e5", "a\u030a", "\u1ead", "\u1eac", "a\u0302\u0323", "a\u0323\u0302", "\u1ea1\u0302",
	"\ufb01", "fi", "FI", "Stra\u00dfe", "STRASSE", "strasse", "\u017ftrasse", "\u00df", "\u1e9e", "ss", "\uac01", "\uac00\u11a8", "\u1100\u1161\u11a8", "\u1100",
	"\xff", "\xc3", "\ufffd", "\xe2\x82", "\ufffd\ufffd", "\uffff", "\U00010000", "\u03b1\u0345\uff9e", "\u03b1\u3099\u0345", "\u03b1\u0345\u3099", "\u1fb3\u3099", "\u03b1\u03b9\u3099",
	"\u03b1\u0345\u0301", "\u03b1\u0301\u0345", "\u03b1\u0301\u03b9", "\u0f73", "\u0f71\u0f72", "\u0f72\u0f71", "\uff9e", "\u3099", "\u0344", "\u0308\u0301", "\u2126", "\u03a9", "\u03c9", "K", "\u212a", "k",
}

func keyOf(t *testing.T, mode int, text string) string {
	t.Helper()
	key, e := Key(mode, text)
	if e != api.OK {
		t.Fatalf("Key(%d, %+q): %d", mode, text, e)
	}
	return key
}

func TestAKeyIsItsOwnKey(t *testing.T) {
	for _, text := range append(mixedTexts(newReference(), 1000), sames...) {
		for _, mode := range modes {
			key := keyOf(t, mode, text)
			if got := keyOf(t, mode, key); got != key {
				t.Errorf("P10: mode %d: the key of %+q is %+q, and that of it %+q", mode, text, key, got)
			}
		}
	}
}

func TestTheOrderIsThatOfTheKeysBytes(t *testing.T) {
	for _, mode := range modes {
		for _, a := range sames {
			for _, b := range sames {
				want := strings.Compare(keyOf(t, mode, a), keyOf(t, mode, b))
				if got, e := Compare(mode, a, b); got != want || e != api.OK {
					t.Errorf("P10: Compare(%d, %+q, %+q) = %d, %d; the keys stand %d", mode, a, b, got, e, want)
				}
			}
		}
	}
}

func TestWhatIsTheSameIsSoInWiderModes(t *testing.T) {
	wider := map[int][]int{api.Same: {api.Alike, api.SameCase, api.AlikeCase}, api.SameCase: {api.AlikeCase}}
	for _, a := range sames {
		for _, b := range sames {
			for narrow, list := range wider {
				if n, _ := Compare(narrow, a, b); n != 0 {
					continue
				}
				for _, mode := range list {
					if n, e := Compare(mode, a, b); n != 0 || e != api.OK {
						t.Errorf("P10: %+q and %+q are the same in mode %d, and in mode %d %d, %d", a, b, narrow, mode, n, e)
					}
				}
			}
		}
	}
}

func checkKeyOfParts(t *testing.T, mode int, text string, cuts []int) {
	t.Helper()
	whole := keyOf(t, mode, text)
	for _, cut := range cuts {
		if got := keyOf(t, mode, text[:cut]) + keyOf(t, mode, text[cut:]); got != whole {
			t.Errorf("P10: mode %d: %+q cut at %d has the keys %+q, whole %+q", mode, text, cut, got, whole)
		}
	}
}

func TestCutTextsHaveThePartsKeys(t *testing.T) {
	for _, text := range mixedTexts(newReference(), 1000) {
		for _, mode := range modes {
			cuts, e := Cuts(mode, text)
			if e != api.OK {
				t.Errorf("P10: Cuts(%d, %+q): %d", mode, text, e)
			}
			checkKeyOfParts(t, mode, text, cuts)
		}
	}
}

func TestTextsMayBeCutAtALetter(t *testing.T) {
	for _, text := range mixedTexts(newReference(), 300) {
		for _, letter := range []string{"a", "Z"} {
			for _, mode := range modes {
				checkKeyOfParts(t, mode, text+letter+text, []int{len(text)})
			}
		}
	}
}

func TestMarksOfDifferentClassesMayChangePlaces(t *testing.T) {
	ref := newReference()
	for a, first := range ref.class {
		for b, second := range ref.class {
			if first == 0 || second == 0 || first == second {
				continue
			}
			one, other := "x"+string(a)+string(b)+"y", "x"+string(b)+string(a)+"y"
			if n, e := Compare(api.Same, one, other); n != 0 || e != api.OK {
				t.Errorf("P10: Compare(0, %+q, %+q) = %d, %d", one, other, n, e)
			}
		}
	}
}

func TestADecompositionStandsForItsCodePoint(t *testing.T) {
	ref := newReference()
	for c := range ref.class {
		if ref.canon[c] == nil {
			continue
		}
		one, other := "x\u0301"+string(c)+"\u0323", "x\u0301"+string(ref.canon[c])+"\u0323"
		for _, mode := range modes {
			if n, e := Compare(mode, one, other); n != 0 || e != api.OK {
				t.Errorf("P10: Compare(%d, %+q, %+q) = %d, %d", mode, one, other, n, e)
			}
		}
	}
}

func checkCutAnyhow(t *testing.T, mode int, a, b string, by *rand.Rand) {
	t.Helper()
	sign, _ := Compare(mode, a, b)
	for _, lists := range [][2][]api.Chunk{{chunks(a), chunks(b)}, {bytewise(a), bytewise(b)}, {anyhow(a, by), anyhow(b, by)}} {
		if got, e := Stream(mode, lists[0], lists[1]); got.Sign != sign || e != api.OK {
			t.Errorf("P10: Stream(%d, %s, %s): %d, %d; Compare tells %d", mode, told(lists[0]), told(lists[1]), got.Sign, e, sign)
		}
	}
}

func TestHoweverATextIsCutTheSignIsTheSame(t *testing.T) {
	same := rand.New(rand.NewSource(5))
	for _, mode := range modes {
		for _, a := range sames {
			for _, b := range sames {
				checkCutAnyhow(t, mode, a, b, same)
			}
		}
	}
	texts := mixedTexts(newReference(), 500)
	for i, a := range texts {
		for _, mode := range modes {
			checkCutAnyhow(t, mode, a, keyOf(t, mode, a), same)
			checkCutAnyhow(t, mode, a, a+texts[(i+1)%len(texts)], same)
		}
	}
}

// othersBehind are lists that begin as one does, and of which the rest, if a part of it was not read, is another.
func othersBehind(list []api.Chunk, reads int) [][]api.Chunk {
	if reads == len(list) {
		return [][]api.Chunk{list}
	}
	var lists [][]api.Chunk
	for _, rest := range [][]api.Chunk{nil, {fails}, {above}, chunks("\u0301\u0301\u0301"), chunks("\x80"), empty(64), chunks("z", fails)} {
		lists = append(lists, chunks(list[:reads], rest))
	}
	return lists
}

func TestWhatWasNotReadDoesNotMatter(t *testing.T) {
	texts := mixedTexts(newReference(), 600)
	same := rand.New(rand.NewSource(6))
	for i, text := range texts {
		cut := same.Intn(len(text) + 1)
		a, b := anyhow(text, same), anyhow(text[:cut]+texts[(i+1)%len(texts)], same)
		if i%3 == 0 {
			a = spoiled(a, same)
		}
		mode := modes[i%4]
		want, wantE := Stream(mode, a, b)
		for _, one := range othersBehind(a, want.ReadA) {
			for _, other := range othersBehind(b, want.ReadB) {
				if got, e := Stream(mode, one, other); got != want || e != wantE {
					t.Errorf("P10: Stream(%d, %s, %s) = %+v, %d, with the rest another %+v, %d", mode, told(a), told(b), want, wantE, got, e)
				}
			}
		}
	}
}
