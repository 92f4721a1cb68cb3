package equate

import (
	"hash/fnv"
	"math/rand"
	"strings"
	"testing"

	"equate/api"
)

func checkDigest(t *testing.T, mode int, list []api.Chunk, want uint64) {
	t.Helper()
	if got, e := Digest(mode, list); got != want || e != api.OK {
		t.Errorf("P9: Digest(%d, %s) = %d, %d, want %d", mode, told(list), got, e, want)
	}
}

func fnvOf(text string) uint64 {
	h := fnv.New64a()
	h.Write([]byte(text))
	return h.Sum64()
}

func TestDigestOfLists(t *testing.T) {
	for _, mode := range modes {
		for _, c := range []struct {
			list []api.Chunk
			key  string
		}{
			{nil, ""}, {[]api.Chunk{}, ""}, {chunks(""), ""}, {empty(63), ""},
			{chunks("a"), "a"}, {chunks("foo", "", "bar"), "foobar"},
			{chunks("", "\xc3", "", "\xa9"), "e\u0301"}, {chunks("\xe2", "\x82", "\xac"), "\u20ac"}, {chunks("\xe2", "\x82"), "\ufffd\ufffd"}, {chunks("\xe2", "a"), "\ufffda"},
			{chunks("a\u0301", "\u0323", "b"), "a\u0323\u0301b"}, {chunks("\u0301", "", "\u0323"), "\u0323\u0301"}, {chunks("a\u0301", "\xc3"), "a\u0301\ufffd"},
			{chunks("a", empty(63), "b", empty(63)), "ab"},
		} {
			checkDigest(t, mode, c.list, fnvOf(c.key))
		}
	}
}

func TestDigestInEachMode(t *testing.T) {
	for _, c := range []struct {
		list []api.Chunk
		keys [4]string
	}{
		{chunks("A\xcc", "\x8a"), [4]string{"A\u030a", "A\u030a", "a\u030a", "a\u030a"}},
		{chunks("\U0001d400"[:2], "\U0001d400"[2:]), [4]string{"\U0001d400", "A", "\U0001d400", "a"}},
		{chunks("\ufb01"[:1], "\ufb01"[1:]), [4]string{"\ufb01", "fi", "fi", "fi"}},
		{chunks("Stra\xc3", "\x9fe"), [4]string{"Stra\u00dfe", "Stra\u00dfe", "strasse", "strasse"}},
		{chunks("\u30cf\u0301", "\uff9e"), [4]string{"\u30cf\u0301\uff9e", "\u30cf\u3099\u0301", "\u30cf\u0301\uff9e", "\u30cf\u3099\u0301"}},
		{chunks("\u03b1\u0345", "\u0301"), [4]string{"\u03b1\u0301\u0345", "\u03b1\u0301\u0345", "\u03b1\u0301\u03b9", "\u03b1\u0301\u03b9"}},
	} {
		for mode, key := range c.keys {
			checkDigest(t, mode, c.list, fnvOf(key))
		}
	}
}

func TestDigestIsTheHashHoweverATextIsCut(t *testing.T) {
	ref := newReference()
	same := rand.New(rand.NewSource(4))
	for _, text := range append(mixedTexts(ref, 1000), sames...) {
		for _, mode := range modes {
			want, _ := Hash(mode, text)
			if want != fnvOf(ref.key(mode, text)) {
				t.Errorf("P6: Hash(%d, %+q) = %d", mode, text, want)
			}
			for _, list := range [][]api.Chunk{chunks(text), bytewise(text), anyhow(text, same), anyhow(text, same)} {
				checkDigest(t, mode, list, want)
			}
		}
	}
	long := strings.Repeat("\u00e9\u0323A\xe2", 5000) + strings.Repeat("\u0301\u0323", 5000)
	for _, mode := range modes {
		want, _ := Hash(mode, long)
		checkDigest(t, mode, bytewise(long), want)
	}
}

func TestDigestOfASourceThatGivesUp(t *testing.T) {
	for _, c := range givingUp() {
		// All of it is read: it matters nowhere what stands ahead.
		for _, ahead := range []string{"a", "abc\u0301d", "\u0301", "\xe2\x82"} {
			for _, list := range [][]api.Chunk{c.list, chunks(ahead, c.list), chunks(ahead, c.list, "x"), chunks(ahead, "", ahead, c.list)} {
				for _, mode := range modes {
					if got, e := Digest(mode, list); got != 0 || e != c.want {
						t.Errorf("P9: Digest(%d, %s) = %d, %d, want 0, %d", mode, told(list), got, e, c.want)
					}
				}
			}
		}
	}
}

func TestDigestTellsTheFirstError(t *testing.T) {
	for _, c := range []struct {
		list []api.Chunk
		want api.Errno
	}{
		{chunks("a", fails, above), api.ErrSource}, {chunks("a", above, fails), api.ErrCount}, {chunks(empty(64), fails), api.ErrProgress}, {chunks(above, empty(64)), api.ErrCount},
	} {
		for _, mode := range modes {
			if got, e := Digest(mode, c.list); got != 0 || e != c.want {
				t.Errorf("P9: Digest(%d, %s) = %d, %d, want 0, %d", mode, told(c.list), got, e, c.want)
			}
		}
	}
}
