package source

import (
	"slices"
	"testing"

	"equate/api"
)

func TestWholeGivesCodePoints(t *testing.T) {
	for _, c := range []struct {
		text string
		want []rune
	}{
		{"", nil},
		{"a\u00e9\U0001d400", []rune{'a', 0xe9, 0x1d400}},
		{"\x00\ufffd", []rune{0, 0xfffd}},
		{"\xff\xc3", []rune{0xfffd, 0xfffd}},
		{"\xe2\x82a", []rune{0xfffd, 0xfffd, 'a'}},
		{"\xed\xa0\x80", []rune{0xfffd, 0xfffd, 0xfffd}},
	} {
		var got []rune
		w := NewWhole(c.text)
		for !w.Ended() {
			got = append(got, w.Next())
		}
		if !slices.Equal(got, c.want) {
			t.Errorf("%+q gives %U, want %U", c.text, got, c.want)
		}
	}
}

func TestChunksGiveTheirTexts(t *testing.T) {
	for _, texts := range [][]string{nil, {""}, {"a"}, {"a", "", "\xc3", "\xa9"}, {"", ""}} {
		var list []api.Chunk
		for _, text := range texts {
			list = append(list, api.Chunk{Kind: api.Some, Text: text})
		}
		var got []string
		c := NewChunks(list)
		for !c.Ended() {
			got = append(got, c.Read())
		}
		if !slices.Equal(got, texts) {
			t.Errorf("%q gives %q", texts, got)
		}
	}
}

func TestBehindTheEndThereIsNothing(t *testing.T) {
	c := NewChunks([]api.Chunk{{Text: "a"}})
	c.Read()
	if got := c.Read(); got != "" || !c.Ended() {
		t.Errorf("behind the end: %q, ended %t", got, c.Ended())
	}
	w := NewWhole("a")
	w.Next()
	if w.Next(); !w.Ended() {
		t.Error("behind the end a text goes on")
	}
}

// A list that is handed in must stay as it is, and what stands behind it must not be read.
func TestChunksKeepToTheirList(t *testing.T) {
	all := []api.Chunk{{Text: "a"}, {Text: "b"}, {Text: "c"}}
	before := slices.Clone(all)
	c := NewChunks(all[:2])
	var got []string
	for !c.Ended() {
		got = append(got, c.Read())
	}
	if !slices.Equal(got, []string{"a", "b"}) || !slices.Equal(all, before) {
		t.Errorf("read %q, left %v", got, all)
	}
}
