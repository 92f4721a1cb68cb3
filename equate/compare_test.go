package equate

import (
	"math/rand"
	"strings"
	"testing"

	"equate/api"
)

type compareCase struct {
	a, b                             string
	same, alike, sameCase, alikeCase int
}

func checkCompare(t *testing.T, cases []compareCase) {
	t.Helper()
	for _, c := range cases {
		for mode, want := range []int{c.same, c.alike, c.sameCase, c.alikeCase} {
			if got, e := Compare(mode, c.a, c.b); got != want || e != api.OK {
				t.Errorf("P5: Compare(%d, %+.80q, %+.80q) = %d, %d, want %d", mode, c.a, c.b, got, e, want)
			}
			if got, e := Compare(mode, c.b, c.a); got != -want || e != api.OK {
				t.Errorf("P5: Compare(%d, %+.80q, %+.80q) = %d, %d, want %d", mode, c.b, c.a, got, e, -want)
			}
		}
	}
}

// allAre is the case of texts that stand alike in all modes.
func allAre(a, b string, sign int) compareCase { return compareCase{a, b, sign, sign, sign, sign} }

func TestCompareExamples(t *testing.T) {
	checkCompare(t, []compareCase{
		allAre("a", "b", -1),
		{"\U0001d400", "A", 1, 0, 1, 0},
		allAre("\u00c5", "\u212b", 0),
		allAre("\u1ead", "a\u0302\u0323", 0),
		{"\ufb01", "fi", 1, 0, 0, 0},
		{"Stra\u00dfe", "strasse", -1, -1, 0, 0},
		allAre("\uac01", "\u1100\u1161\u11a8", 0),
		{"\u03b1\u0345\uff9e", "\u03b1\u3099\u0345", -1, 0, -1, -1},
	})
}

func TestCompareWithABeginning(t *testing.T) {
	checkCompare(t, []compareCase{
		allAre("", "", 0), allAre("", "a", -1), allAre("", "\x00", -1), allAre("", "\u0301", -1), allAre("", "\xff", -1),
		allAre("a", "ab", -1), allAre("ab", "ab", 0), allAre("a", "a\x00", -1), allAre("a", "a\u0301", -1), allAre("a", "\u00e1", -1),
		allAre("\u00e1", "a\u0301\u0300", -1), allAre("\u1100", "\uac00", -1), allAre("\uac00", "\uac01", -1), allAre("\u0f71", "\u0f73", -1),
		{"f", "\ufb01", -1, -1, -1, -1}, {"s", "\u00df", -1, -1, -1, -1}, {"ss", "\u00df", -1, -1, 0, 0}, {"sss", "\u00df", -1, -1, 1, 1},
	})
}

func TestComparePartsInTheMidstOfMarks(t *testing.T) {
	checkCompare(t, []compareCase{
		allAre("a\u0301", "a\u0323", -1), allAre("a\u0301x", "a\u0323x", -1),
		allAre("a\u0301\u0323", "a\u0323", 1), allAre("a\u0301\u0323", "a\u0323\u0301", 0), allAre("a\u0301\u0300", "a\u0300\u0301", 1),
		allAre("a\u0301\u0323x", "a\u0301x", 1),       // 0323 is put ahead of 0301
		allAre("a\u0301\u0338x", "a\u0301\u0323x", 1), // 0338 and 0323 are put ahead of 0301
		allAre("a\u0301\u0300b", "a\u0301b", 1),       // a mark against the starter behind
		allAre("a\u0323\u0301\u0302", "a\u0302\u0323\u0301", -1),
		allAre("\u0301", "\u0323", -1), allAre("\u0301a", "\u0301b", -1),
		{"\u03b1\u0345\u0323", "\u03b1\u0323\u03b9", -1, -1, 0, 0}, // a mark whose folding is a starter
		{"\u30cf\u0301\uff9e", "\u30cf\u3099\u0301", -1, 0, -1, 0},
	})
}

func TestCompareIsByCodePoints(t *testing.T) {
	checkCompare(t, []compareCase{
		allAre("\ue000", "\U00010000", -1), allAre("\uffff", "\U00010000", -1), allAre("\uffff", "\U0010ffff", -1), allAre("\ufffd", "\U0001d7ff", -1),
		allAre("\ud7ff", "\ue000", -1), allAre("a\uffff", "a\U00010000", -1), allAre("\x7f", "\u0080", -1), allAre("\u07ff", "\u0800", -1),
		allAre("\x00", "\x01", -1), allAre("\U0010fffe", "\U0010ffff", -1),
	})
}

func TestCompareBytesThatAreNoCodePoint(t *testing.T) {
	checkCompare(t, []compareCase{
		allAre("\xff", "\xfe", 0), allAre("\xff", "\ufffd", 0), allAre("\xff", "\u00ff", 1), allAre("\xff", "\U00010000", -1), allAre("\xff", "\ufffe", -1),
		allAre("a\xc3", "a\u00e9", 1), allAre("\xe2\x82", "\xff\xff", 0), allAre("\xe2\x82", "\xe2\x82\xac", 1), allAre("\xc3", "\xc3\xc3", -1),
		allAre("\xed\xa0\x80", "\ufffd\ufffd\ufffd", 0), allAre("a\xc3\u0301\u0323", "a\xff\u0323\u0301", 0), allAre("\x80a", "\x81b", -1),
	})
}

func TestCompareLongTexts(t *testing.T) {
	const n = 20000
	marks, turned := strings.Repeat("\u0301\u0323", n), strings.Repeat("\u0323", n)+strings.Repeat("\u0301", n)
	checkCompare(t, []compareCase{
		allAre(strings.Repeat("\u00e9", n), strings.Repeat("e\u0301", n), 0),
		allAre("a"+marks+"x", "a"+turned+"x", 0), allAre("a"+marks+"x", "a"+turned+"y", -1), allAre("a"+marks+"\u0338", "a"+turned, 1), allAre("a"+marks, "b", -1),
		{strings.Repeat("STRASSE", n), strings.Repeat("stra\u00dfe", n), -1, -1, 0, 0},
	})
}

func TestCompareMixedTexts(t *testing.T) {
	ref := newReference()
	texts := mixedTexts(ref, 3000)
	same := rand.New(rand.NewSource(2))
	for i, a := range texts {
		b := texts[same.Intn(len(texts))]
		switch cut := same.Intn(len(a) + 1); i % 3 {
		case 1: // they begin alike
			b = a[:cut] + b
		case 2: // one is a beginning of the other, in bytes
			b = a[:cut]
		}
		for _, mode := range modes {
			if got, e := Compare(mode, a, b); got != ref.compare(mode, a, b) || e != api.OK {
				t.Errorf("P5: Compare(%d, %+q, %+q) = %d, %d, want %d", mode, a, b, got, e, ref.compare(mode, a, b))
			}
		}
	}
}
