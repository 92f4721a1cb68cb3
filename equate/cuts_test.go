package equate

import (
	"slices"
	"strings"
	"testing"

	"equate/api"
)

type cutsCase struct {
	text                             string
	same, alike, sameCase, alikeCase []int
}

func checkCuts(t *testing.T, cases []cutsCase) {
	t.Helper()
	for _, c := range cases {
		for mode, want := range [][]int{c.same, c.alike, c.sameCase, c.alikeCase} {
			if got, e := Cuts(mode, c.text); !slices.Equal(got, want) || e != api.OK {
				t.Errorf("P4: Cuts(%d, %+q) = %v, %d, want %v", mode, c.text, got, e, want)
			}
		}
	}
}

// allCuts is the case of a text that has the same cuts in all modes.
func allCuts(text string, cuts ...int) cutsCase { return cutsCase{text, cuts, cuts, cuts, cuts} }

func TestCutsExamples(t *testing.T) {
	checkCuts(t, []cutsCase{
		allCuts("a\u00e9\u0301b", 1, 5),
		allCuts("a\u0f73"),
		{"a\uff9e", []int{1}, nil, []int{1}, nil},
	})
}

func TestCutsOfShortTexts(t *testing.T) {
	checkCuts(t, []cutsCase{
		allCuts(""), allCuts("a"), allCuts("\u0301"), allCuts("\u0f73"), allCuts("\uff9e"), allCuts("\uac01"), allCuts("\U0001d400"), allCuts("\xff"), allCuts("\x00"),
		allCuts("ab", 1), allCuts("\u00e9\u00e9", 2), allCuts("\u20ac\u20ac", 3), allCuts("\U0001d400\U0001d400", 4), allCuts("\x00\x00", 1),
	})
}

func TestCutsAtMarksAndStarters(t *testing.T) {
	checkCuts(t, []cutsCase{
		allCuts("a\u0301"), allCuts("\u0301a", 2), allCuts("\u0301\u0323"), allCuts("a\u0301\u0323b\u0300c", 5, 8),
		allCuts("a\u0344b", 3),                           // a mark that is taken apart
		allCuts("\u1ead\u1eac\u01fa", 3, 6),              // letters that are taken apart over and over
		allCuts("\uac01\u1100\u1161\u11a8", 3, 6, 9),     // syllables and what they are made of
		allCuts("ABC", 1, 2),                             // what is folded
		allCuts("a\u00df\u0130\ufb01\u3300", 1, 3, 5, 8), // what is folded or taken apart into more than one
		allCuts("a\U0001d165\U0001d15e", 5),
	})
}

func TestCutsAtTheOddOnes(t *testing.T) {
	checkCuts(t, []cutsCase{
		// U+0F73 is a starter, but what it is taken apart into begins with a mark.
		allCuts("a\u0f73b\u0f73", 4), allCuts("\u0f73a", 3), allCuts("\u0f73\u0f73"),
		// U+FF9E is a starter canonically, and compatibly a mark.
		{"a\uff9eb\uff9e", []int{1, 4, 5}, []int{4}, []int{1, 4, 5}, []int{4}},
		{"\uff9e\uff9e", []int{3}, nil, []int{3}, nil},
		// U+0345 is a mark ahead of the first folding, and a starter behind it.
		allCuts("a\u0345"), allCuts("\u0345\u0345"), allCuts("\u0345\u03b9", 2), allCuts("\u03b1\u0345\u0301b", 6), allCuts("\u03b1\u1fb3", 2),
	})
}

func TestCutsAtBytesThatAreNoCodePoint(t *testing.T) {
	checkCuts(t, []cutsCase{
		allCuts("\xff\xfea", 1, 2), allCuts("a\xc3", 1), allCuts("a\xc3b", 1, 2), allCuts("\xc3\u0301\xc3", 3),
		allCuts("\xe2\x82\u00e9", 1, 2), allCuts("\xe2\x82\xac\xe2\x82", 3, 4), allCuts("\xf0\x9d\x90", 1, 2),
		allCuts("\xed\xa0\x80", 1, 2), allCuts("\xf4\x90\x80\x80", 1, 2, 3), allCuts("\xc0\x80", 1), allCuts("a\ufffd\xff\u0323", 1, 4),
	})
}

func checkReferenceCuts(t *testing.T, ref reference, text string) {
	t.Helper()
	for _, mode := range modes {
		want := ref.cuts(mode, text)
		if got, e := Cuts(mode, text); !slices.Equal(got, want) || e != api.OK {
			t.Errorf("P4: Cuts(%d, %+.200q) = %v, %d, want %v", mode, text, got, e, want)
		}
	}
}

// All that the table speaks of is below 20000.
func TestCutsAtEveryCodePoint(t *testing.T) {
	ref := newReference()
	for _, from := range []rune{0, 0x10000, 0x100000} {
		var text strings.Builder
		for c := from; c < from+0x10000; c++ {
			text.WriteRune(c)
		}
		for _, mode := range modes {
			if got, e := Cuts(mode, text.String()); !slices.Equal(got, ref.cuts(mode, text.String())) || e != api.OK {
				t.Errorf("P4: Cuts(%d, %U and so on) is wrong, %d", mode, from, e)
			}
		}
	}
}

func TestCutsOfMixedTexts(t *testing.T) {
	ref := newReference()
	for _, text := range mixedTexts(ref, 2000) {
		checkReferenceCuts(t, ref, text)
	}
	for _, text := range brokenTexts() {
		checkReferenceCuts(t, ref, text)
	}
}

func TestCutsAreNewMemory(t *testing.T) {
	const text = "abc\u0301d\uff9e\u0f73e\xffg"
	for _, mode := range modes {
		want, _ := Cuts(mode, text)
		kept := slices.Clone(want)
		other, _ := Cuts(mode, text)
		spare := other[:cap(other)]
		for i := range spare {
			spare[i] = -7
		}
		again, e := Cuts(mode, text)
		if !slices.Equal(want, kept) || !slices.Equal(again, kept) || e != api.OK {
			t.Errorf("P2: Cuts(%d) is %v, and behind a list that was written into %v, %d, want %v", mode, want, again, e, kept)
		}
	}
}
