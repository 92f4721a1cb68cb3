package source

import (
	"math"
	"slices"
	"testing"

	"equate/api"
)

func TestChunksGiveTheirTexts(t *testing.T) {
	for _, texts := range [][]string{nil, {""}, {"a"}, {"a", "", "\xc3", "\xa9"}, {"", ""}} {
		var list []api.Chunk
		for _, text := range texts {
			list = append(list, api.Chunk{Kind: api.Some, Text: text})
		}
		var got []string
		c := NewChunks(list)
		for !c.Ended() {
			got = append(got, c.Read())
		}
		if !slices.Equal(got, texts) {
			t.Errorf("%q gives %q", texts, got)
		}
	}
}

// A list that is handed in must stay as it is, and what stands behind it must not be read.
func TestChunksKeepToTheirList(t *testing.T) {
	all := []api.Chunk{{Text: "a"}, {Text: "b"}, {Text: "c"}}
	before := slices.Clone(all)
	c := NewChunks(all[:2])
	var got []string
	for !c.Ended() {
		got = append(got, c.Read())
	}
	if !slices.Equal(got, []string{"a", "b"}) || !slices.Equal(all, before) {
		t.Errorf("read %q, left %v", got, all)
	}
}

func TestBehindTheLastChunkThereIsNothing(t *testing.T) {
	c := NewChunks([]api.Chunk{{Text: "a"}})
	c.Read()
	if got := c.Read(); got != "" || !c.Ended() || c.Reads() != 1 {
		t.Errorf("behind the end: %q, ended %t, %d reads", got, c.Ended(), c.Reads())
	}
}

// readAll reads till the source has ended or gave up.
func readAll(c *Chunks) (e api.Errno) {
	defer func() {
		if up, ok := recover().(GaveUp); ok {
			e = up.Why
		}
	}()
	for !c.Ended() {
		c.Read()
	}
	return api.OK
}

func TestASourceGivesUp(t *testing.T) {
	idle, a := make([]api.Chunk, api.Patience), []api.Chunk{{Text: "a"}}
	for _, c := range []struct {
		list  []api.Chunk
		reads int
		want  api.Errno
	}{
		{nil, 0, api.OK},
		{a, 1, api.OK},
		{[]api.Chunk{{Text: "a"}, {Kind: api.Fails, Text: "b"}, {Text: "c"}}, 2, api.ErrSource},
		{[]api.Chunk{{Kind: 2, Text: "a"}, {Kind: api.Fails}}, 1, api.ErrCount},
		{[]api.Chunk{{Kind: -1}}, 1, api.ErrCount},
		{[]api.Chunk{{Kind: math.MaxInt}}, 1, api.ErrCount},
		{[]api.Chunk{{Kind: math.MinInt}}, 1, api.ErrCount},
		{idle, 64, api.ErrProgress},
		{slices.Concat(idle, a), 64, api.ErrProgress},
		{idle[1:], 63, api.OK},
		{slices.Concat(idle[1:], a, idle[1:]), 127, api.OK},
		{slices.Concat(idle[1:], a, idle), 128, api.ErrProgress},
		{slices.Concat(idle[1:], []api.Chunk{{Kind: api.Fails}}), 64, api.ErrSource},
		{slices.Concat(idle[1:], []api.Chunk{{Kind: 2}}), 64, api.ErrCount},
	} {
		source := NewChunks(c.list)
		if got := readAll(source); got != c.want || source.Reads() != c.reads {
			t.Errorf("%d chunks: %d behind %d reads, want %d behind %d", len(c.list), got, source.Reads(), c.want, c.reads)
		}
	}
}
