package equate

import (
	"math/rand"
	"strings"
	"testing"
	"unicode/utf8"

	"equate/api"
)

var modes = []int{api.Same, api.Alike, api.SameCase, api.AlikeCase}

type keyCase struct {
	text                             string
	same, alike, sameCase, alikeCase string
}

func checkKeys(t *testing.T, cases []keyCase) {
	t.Helper()
	for _, c := range cases {
		for mode, want := range []string{c.same, c.alike, c.sameCase, c.alikeCase} {
			if got, e := Key(mode, c.text); got != want || e != api.OK {
				t.Errorf("P3: Key(%d, %+q) = %+q, %d, want %+q", mode, c.text, got, e, want)
			}
		}
	}
}

// all is the case of a text that has one key in all modes.
func all(text, key string) keyCase { return keyCase{text, key, key, key, key} }

func TestKeyExamples(t *testing.T) {
	checkKeys(t, []keyCase{
		all("", ""),
		{"\u00c5", "A\u030a", "A\u030a", "a\u030a", "a\u030a"},
		{"\u212b", "A\u030a", "A\u030a", "a\u030a", "a\u030a"},
		all("\u1ead", "a\u0323\u0302"),
		all("a\u0302\u0323", "a\u0323\u0302"),
		{"\ufb01", "\ufb01", "fi", "fi", "fi"},
		{"Stra\u00dfe", "Stra\u00dfe", "Stra\u00dfe", "strasse", "strasse"},
		{"\uff21", "\uff21", "A", "\uff41", "a"},
		{"\U0001d400", "\U0001d400", "A", "\U0001d400", "a"},
		all("\uac01", "\u1100\u1161\u11a8"),
		all("\xff\xc3", "\ufffd\ufffd"),
		{"\u03b1\u0345\u0301", "\u03b1\u0301\u0345", "\u03b1\u0301\u0345", "\u03b1\u0301\u03b9", "\u03b1\u0301\u03b9"},
	})
}

func TestKeyOfBytesThatAreNoCodePoint(t *testing.T) {
	const bad = "\ufffd"
	checkKeys(t, []keyCase{
		all("\x80", bad), all("\xbf", bad), all("\xfe", bad), all("\xff", bad), // no first byte
		all("\xc3", bad), all("\xe2\x82", bad+bad), all("\xf0\x9d\x90", bad+bad+bad), // too few
		all("\xc3a", bad+"a"), all("\xe2\x82a", bad+bad+"a"), all("\xf0\x9d\x90\u00e9", bad+bad+bad+"e\u0301"),
		all("\xc0\x80", bad+bad), all("\xc1\xbf", bad+bad), all("\xe0\x9f\xbf", bad+bad+bad), all("\xf0\x8f\xbf\xbf", bad+bad+bad+bad), // not the shortest
		all("\xed\x9f\xbf", "\ud7ff"), all("\xed\xa0\x80", bad+bad+bad), all("\xed\xbf\xbf", bad+bad+bad), all("\xee\x80\x80", "\ue000"),
		all("\xf4\x8f\xbf\xbf", "\U0010ffff"), all("\xf4\x90\x80\x80", bad+bad+bad+bad), all("\xf5\x80\x80\x80", bad+bad+bad+bad),
		all("\xef\xbf\xbd", bad), all("a\xff\u0301\u0323", "a"+bad+"\u0323\u0301"), all("a\u0301\xc3\u0323", "a\u0301"+bad+"\u0323"),
		all("\x00\x7f", "\x00\x7f"),
	})
}

func TestKeyOfSyllables(t *testing.T) {
	ref := newReference()
	var text, key strings.Builder
	for c := rune(0xAC00); c <= 0xD7A3; c++ {
		text.WriteRune(c)
		key.WriteString(string(ref.canon[c]))
	}
	for _, mode := range modes {
		if got, e := Key(mode, text.String()); got != key.String() || e != api.OK {
			t.Errorf("P3: Key(%d, all syllables) is wrong, %d", mode, e)
		}
	}
	checkKeys(t, []keyCase{
		all("\uabff", "\uabff"), all("\uac00", "\u1100\u1161"), all("\uac1b", "\u1100\u1161\u11c2"), all("\uac1c", "\u1100\u1162"),
		all("\uae00", "\u1100\u1173\u11af"), all("\uae4c", "\u1101\u1161"), all("\ud7a3", "\u1112\u1175\u11c2"), all("\ud7a4", "\ud7a4"),
		all("a\u0301\uac00\u0301\u0323", "a\u0301\u1100\u1161\u0323\u0301"),
	})
}

func TestKeyOrdersMarks(t *testing.T) {
	checkKeys(t, []keyCase{
		all("a\u0301\u0323", "a\u0323\u0301"), all("a\u0323\u0301", "a\u0323\u0301"),
		all("a\u0301\u0300", "a\u0301\u0300"), all("a\u0300\u0301", "a\u0300\u0301"), // of one class: as they stood
		all("a\u0301\u0300\u0323\u0327\u0338", "a\u0338\u0327\u0323\u0301\u0300"),
		all("a\u0300\u0323\u0301\u0323\u0308", "a\u0323\u0323\u0300\u0301\u0308"),
		all("\u0301\u0323", "\u0323\u0301"), all("\u0301", "\u0301"), // nothing ahead of them
		all("\u0301b\u0323", "\u0301b\u0323"), all("a\u0301 \u0323", "a\u0301 \u0323"), // a starter between
		all("\u00e9\u0323", "e\u0323\u0301"), all("a\u0344\u0323", "a\u0323\u0308\u0301"), // out of decompositions
		all("\U0001d15e\u0338", "\U0001d157\u0338\U0001d165"),
	})
}

func TestKeyOfManyMarks(t *testing.T) {
	const n = 50000
	one := strings.Repeat("\u0301\u0300", n)
	text := "a" + strings.Repeat("\u0301\u0323\u0300", n) + "b"
	want := "a" + strings.Repeat("\u0323", n) + one + "b"
	for _, mode := range modes {
		if got, e := Key(mode, text); got != want || e != api.OK {
			t.Errorf("P3: Key(%d, a letter with %d marks) is wrong: %d bytes, %d", mode, 3*n, len(got), e)
		}
	}
}

func TestKeyTakesApartOverAndOver(t *testing.T) {
	checkKeys(t, []keyCase{
		{"\u01fa", "A\u030a\u0301", "A\u030a\u0301", "a\u030a\u0301", "a\u030a\u0301"},
		{"\u1eac", "A\u0323\u0302", "A\u0323\u0302", "a\u0323\u0302", "a\u0323\u0302"},
		{"\u3300", "\u3300", "\u30a2\u30cf\u309a\u30fc\u30c8", "\u3300", "\u30a2\u30cf\u309a\u30fc\u30c8"},
		{"\u1e9b", "\u017f\u0307", "s\u0307", "s\u0307", "s\u0307"},
		{"\u2126\u212a", "\u03a9K", "\u03a9K", "\u03c9k", "\u03c9k"},
	})
	if got, e := Key(api.Alike, "\ufdfa"); utf8.RuneCountInString(got) != 18 || e != api.OK {
		t.Errorf("P3: Key(Alike, U+FDFA) = %+q, %d", got, e)
	}
}

func TestKeyFoldsToMoreThanOne(t *testing.T) {
	checkKeys(t, []keyCase{
		{"\u00df\u1e9e", "\u00df\u1e9e", "\u00df\u1e9e", "ssss", "ssss"},
		{"\u0130", "I\u0307", "I\u0307", "i\u0307", "i\u0307"},
		{"\u1fb3\u0301", "\u03b1\u0301\u0345", "\u03b1\u0301\u0345", "\u03b1\u0301\u03b9", "\u03b1\u0301\u03b9"},
		{"\ufb01\u0301\u0323", "\ufb01\u0323\u0301", "fi\u0323\u0301", "fi\u0323\u0301", "fi\u0323\u0301"},
		{"@AZ[`az{", "@AZ[`az{", "@AZ[`az{", "@az[`az{", "@az[`az{"},
		{"\u03a3\u03c3\u03c2", "\u03a3\u03c3\u03c2", "\u03a3\u03c3\u03c2", "\u03c3\u03c3\u03c3", "\u03c3\u03c3\u03c3"},
	})
}

func TestKeyOfTheOddOnes(t *testing.T) {
	checkKeys(t, []keyCase{
		// U+0345 is a mark, but what it folds to is a starter: it parts the marks on its sides.
		{"\u0345", "\u0345", "\u0345", "\u03b9", "\u03b9"},
		{"\u03b1\u0345\u0323\u0345", "\u03b1\u0323\u0345\u0345", "\u03b1\u0323\u0345\u0345", "\u03b1\u0323\u03b9\u03b9", "\u03b1\u0323\u03b9\u03b9"},
		// U+0F73 is a starter, but what it is taken apart into are marks.
		all("\u0f73", "\u0f71\u0f72"),
		all("a\u0f73\u05b4", "a\u05b4\u0f71\u0f72"),
		all("a\u0301\u0f73\u0338", "a\u0338\u0f71\u0f72\u0301"),
		// U+FF9E is a starter canonically and a mark compatibly.
		{"\uff9e", "\uff9e", "\u3099", "\uff9e", "\u3099"},
		{"\u30cf\u0301\uff9e", "\u30cf\u0301\uff9e", "\u30cf\u3099\u0301", "\u30cf\u0301\uff9e", "\u30cf\u3099\u0301"},
		// Same in Alike, and not in AlikeCase.
		{"\u03b1\u0345\uff9e", "\u03b1\u0345\uff9e", "\u03b1\u3099\u0345", "\u03b1\u03b9\uff9e", "\u03b1\u03b9\u3099"},
		{"\u03b1\u3099\u0345", "\u03b1\u3099\u0345", "\u03b1\u3099\u0345", "\u03b1\u3099\u03b9", "\u03b1\u3099\u03b9"},
	})
}

func checkReference(t *testing.T, ref reference, text string) {
	t.Helper()
	for _, mode := range modes {
		if got, e := Key(mode, text); got != ref.key(mode, text) || e != api.OK {
			t.Errorf("P3: Key(%d, %+.200q) = %+.200q, %d, want %+.200q", mode, text, got, e, ref.key(mode, text))
		}
	}
}

func TestKeyOfEveryCodePoint(t *testing.T) {
	var text strings.Builder
	for c := rune(0); c <= utf8.MaxRune; c++ {
		text.WriteRune(c)
	}
	checkReference(t, newReference(), text.String())
}

// pieces is what the table has something to say of, and what it has not.
func pieces(ref reference) []string {
	list := []string{"a", "A", "Z", "1", " ", "\u03b1", "\u03b9", "\u30cf", "\uac00", "\uac01", "\ud7a3", "\U0010ffff", "\x80", "\xc3", "\xe2\x82", "\xed\xa0\x80", "\xf0\x9d", "\xff"}
	for c := rune(0); c <= utf8.MaxRune; c++ {
		if _, ok := ref.class[c]; ok {
			list = append(list, string(c))
		}
	}
	return list
}

// mixedTexts are n texts, the same each time; every other piece of them is a mark or something that becomes one.
func mixedTexts(ref reference, n int) []string {
	list := pieces(ref)
	marks := []string{"\u0301", "\u0300", "\u0323", "\u0345", "\u0338", "\u0f73", "\uff9e", "\u3099", "\u0344"}
	same := rand.New(rand.NewSource(1))
	texts := make([]string, n)
	for i := range texts {
		var text strings.Builder
		for range 1 + same.Intn(12) {
			if same.Intn(2) == 0 {
				text.WriteString(list[same.Intn(len(list))])
			} else {
				text.WriteString(marks[same.Intn(len(marks))])
			}
		}
		texts[i] = text.String()
	}
	return texts
}

func TestKeyOfMixedTexts(t *testing.T) {
	ref := newReference()
	for _, text := range mixedTexts(ref, 4000) {
		checkReference(t, ref, text)
	}
}
