package source

import (
	"slices"
	"testing"
)

func TestWholeGivesCodePoints(t *testing.T) {
	for _, c := range []struct {
		text string
		want []rune
	}{
		{"", nil},
		{"a\u00e9\U0001d400", []rune{'a', 0xe9, 0x1d400}},
		{"\x00\ufffd", []rune{0, 0xfffd}},
		{"\xff\xc3", []rune{0xfffd, 0xfffd}},
		{"\xe2\x82a", []rune{0xfffd, 0xfffd, 'a'}},
		{"\xed\xa0\x80", []rune{0xfffd, 0xfffd, 0xfffd}},
	} {
		var got []rune
		w := NewWhole(c.text)
		for !w.Ended() {
			got = append(got, w.Next())
		}
		if !slices.Equal(got, c.want) {
			t.Errorf("%+q gives %U, want %U", c.text, got, c.want)
		}
	}
}

func TestBehindTheEndOfAWhole(t *testing.T) {
	w := NewWhole("a")
	w.Next()
	if w.Next(); !w.Ended() {
		t.Error("behind the end a text goes on")
	}
}
