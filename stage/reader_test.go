package stage

import (
	"testing"

	"equate/api"
	"equate/source"
)

func fetchAll(r *Reader) string {
	var list []rune
	for c := r.Fetch(); c != End; c = r.Fetch() {
		list = append(list, c)
	}
	return string(list)
}

func chunksOf(texts ...string) []api.Chunk {
	var list []api.Chunk
	for _, text := range texts {
		list = append(list, api.Chunk{Kind: api.Some, Text: text})
	}
	return list
}

const mixed = "Stra\u00dfe \u1eac\u0338\xe2\x82\u0345\u0301 \ud7a3\U0001d400\ufdfa\uff9e\u0f73\xf4\x90\u03b1\u0345\xf0\x9d"

func TestBothKindsGiveTheSame(t *testing.T) {
	for mode := api.Same; mode <= api.AlikeCase; mode++ {
		stages := stagesOf(t, mode)
		want := fetchAll(Begin(stages, source.NewWhole(mixed)))
		for i := range len(mixed) + 1 {
			cut := source.NewChunks(chunksOf(mixed[:i], "", mixed[i:]))
			if got := fetchAll(Begin(stages, cut)); got != want {
				t.Errorf("mode %d, cut at %d: %+q, whole %+q", mode, i, got, want)
			}
		}
	}
}

func TestBehindTheEndIsTheEnd(t *testing.T) {
	for _, from := range []source.Source{
		source.NewWhole(""), source.NewWhole("a\u0301"), source.NewChunks(nil), source.NewChunks(chunksOf("")), source.NewChunks(chunksOf("a", "\u0301\xc3")),
	} {
		r := Begin(stagesOf(t, api.AlikeCase), from)
		fetchAll(r)
		for range 3 {
			if got := r.Fetch(); got != End {
				t.Errorf("behind the end: %U", got)
			}
		}
	}
}

func TestTheEndIsBelowEveryCodePoint(t *testing.T) {
	if End >= 0 {
		t.Errorf("End is %d", End)
	}
}

func TestNoMoreIsReadThanMust(t *testing.T) {
	whole := source.NewWhole("ab\u0301\u0323c")
	r := Begin(stagesOf(t, api.SameCase), whole)
	for _, want := range []rune{'a', 'b'} {
		if got := r.Fetch(); got != want {
			t.Errorf("fetched %U, want %U", got, want)
		}
	}
	if got := whole.Next(); got != '\u0301' {
		t.Errorf("the next that was not read is %U", got)
	}

	chunks := source.NewChunks(chunksOf("a", "\u0301", "b", "c"))
	r = Begin(stagesOf(t, api.SameCase), chunks)
	for _, want := range []rune{'a', '\u0301', 'b'} {
		if got := r.Fetch(); got != want {
			t.Errorf("fetched %U, want %U", got, want)
		}
	}
	if got := chunks.Read(); got != "c" {
		t.Errorf("the next that was not read is %q", got)
	}
}

// Whether a source has ended is not asked ahead of time: what the last chunk released comes first.
func TestTheEndIsMetWhenItWouldBeRead(t *testing.T) {
	r := Begin(stagesOf(t, api.Same), source.NewChunks(chunksOf("ab\u0301")))
	for i, want := range []rune{'a', 'b', '\u0301', End} {
		if got := r.Fetch(); got != want {
			t.Errorf("fetched %U, want %U", got, want)
		}
		if want := i >= 2; r.ended != want {
			t.Errorf("behind %d fetches ended is %t", i+1, r.ended)
		}
	}
}

// What gives up does so through the stages, and leaves what was fetched ahead of it as it was.
func TestASourceGivesUpThroughTheStages(t *testing.T) {
	for mode := api.Same; mode <= api.AlikeCase; mode++ {
		chunks := source.NewChunks(append(chunksOf("ab\u0301"), api.Chunk{Kind: api.Fails}))
		r := Begin(stagesOf(t, mode), chunks)
		if a, b := r.Fetch(), r.Fetch(); a != 'a' || b != 'b' || chunks.Reads() != 1 {
			t.Errorf("mode %d: fetched %U, %U behind %d reads", mode, a, b, chunks.Reads())
		}
		func() {
			defer func() {
				if got := recover(); got != (source.GaveUp{Why: api.ErrSource}) || chunks.Reads() != 2 || r.Held() != 1 {
					t.Errorf("mode %d: panic with %v, %d reads, Held %d", mode, got, chunks.Reads(), r.Held())
				}
			}()
			r.Fetch()
		}()
	}
}
