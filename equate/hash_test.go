package equate

import (
	"hash/fnv"
	"testing"

	"equate/api"
)

func TestHashOfWhatIsItsOwnKey(t *testing.T) {
	for _, c := range []struct {
		text string
		want uint64
	}{
		{"", 14695981039346656037},
		{"a", 0xaf63dc4c8601ec8c},
		{"foobar", 0x85944171f73967e8},
	} {
		for _, mode := range modes {
			if got, e := Hash(mode, c.text); got != c.want || e != api.OK {
				t.Errorf("P6: Hash(%d, %q) = %d, %d, want %d", mode, c.text, got, e, c.want)
			}
		}
	}
}

func TestHashIsOfTheKeysBytes(t *testing.T) {
	ref := newReference()
	for _, text := range append(pieces(ref), "Stra\u00dfe", "a\u0302\u0323", "\u03b1\u0345\u0301", "\xff\xc3", "\x00", "a\x00", "\ufdfa\u0f73\uff9e\ud7a3") {
		for _, mode := range modes {
			h := fnv.New64a()
			h.Write([]byte(ref.key(mode, text)))
			if got, e := Hash(mode, text); got != h.Sum64() || e != api.OK {
				t.Errorf("P6: Hash(%d, %+q) = %d, %d, want %d", mode, text, got, e, h.Sum64())
			}
		}
	}
}

func TestHashIsSharedByAllWaysOfWriting(t *testing.T) {
	for _, c := range []struct {
		mode int
		a, b string
		same bool
	}{
		{api.Same, "\u00c5", "\u212b", true}, {api.Same, "a\u0302\u0323", "\u1ead", true}, {api.Same, "A", "a", false}, {api.Same, "\ufb01", "fi", false},
		{api.Alike, "\ufb01", "fi", true}, {api.Alike, "A", "a", false},
		{api.SameCase, "STRASSE", "Stra\u00dfe", true}, {api.SameCase, "\U0001d400", "a", false},
		{api.AlikeCase, "\U0001d400", "a", true}, {api.AlikeCase, "a", "b", false},
	} {
		a, _ := Hash(c.mode, c.a)
		b, _ := Hash(c.mode, c.b)
		if (a == b) != c.same {
			t.Errorf("P6: Hash(%d) of %+q and %+q: %d and %d", c.mode, c.a, c.b, a, b)
		}
	}
}
