package stage

import (
	"testing"

	"equate/api"
)

func released(l *Line) string {
	var list []rune
	for c, ok := l.Take(); ok; c, ok = l.Take() {
		list = append(list, c)
	}
	return string(list)
}

func newLine(t *testing.T, mode int) *Line { return NewLine(stagesOf(t, mode)) }

func TestBeginningsOfCodePointsWait(t *testing.T) {
	for _, c := range []struct{ text, want, end string }{
		{"\xc3", "", "\ufffd"},
		{"\xe2\x82", "", "\ufffd\ufffd"},
		{"\xf0\x9d\x90", "", "\ufffd\ufffd\ufffd"},
		{"a\xc3", "a", "\ufffd"},
		{"\xff", "\ufffd", ""},
		{"\x80", "\ufffd", ""},
		{"\xc0", "\ufffd", ""},
		{"\xed\xa0", "\ufffd\ufffd", ""},
		{"\xf4\x90", "\ufffd\ufffd", ""},
		{"\xf4\x8f", "", "\ufffd\ufffd"},
		{"\xe2\x82A", "\ufffd\ufffdA", ""},
	} {
		l := newLine(t, api.Same)
		l.Put(c.text)
		if got := released(l); got != c.want {
			t.Errorf("%+q releases %+q, want %+q", c.text, got, c.want)
		}
		l.End()
		if got := released(l); got != c.end {
			t.Errorf("%+q releases %+q at the end, want %+q", c.text, got, c.end)
		}
	}
}

func TestMarksWaitForAStarter(t *testing.T) {
	l := newLine(t, api.Same)
	for _, step := range []struct{ text, want string }{
		{"a", "a"}, {"\u0301", ""}, {"\u0323", ""}, {"", ""}, {"x", "\u0323\u0301x"}, {"\u00e9", "e"}, {"\u0f73", ""},
	} {
		l.Put(step.text)
		if got := released(l); got != step.want {
			t.Errorf("%+q releases %+q, want %+q", step.text, got, step.want)
		}
	}
	l.End()
	if got, want := released(l), "\u0f71\u0f72\u0301"; got != want {
		t.Errorf("the end releases %+q, want %+q", got, want)
	}
}

func TestMarksThatAreReleasedMayWaitAgain(t *testing.T) {
	l := newLine(t, api.AlikeCase)
	for _, text := range []string{"\u03b1", "\u0301", "\uff9e", "\u0345"} {
		l.Put(text)
	}
	if got, want := released(l), "\u03b1"; got != want {
		t.Errorf("released %+q, want %+q", got, want)
	}
	l.End()
	if got, want := released(l), "\u3099\u0301\u03b9"; got != want {
		t.Errorf("the end releases %+q, want %+q", got, want)
	}
}

func TestByteByByteIsTheSame(t *testing.T) {
	for mode := api.Same; mode <= api.AlikeCase; mode++ {
		whole, bytewise := newLine(t, mode), newLine(t, mode)
		whole.Put(mixed)
		whole.End()
		for i := range len(mixed) {
			bytewise.Put(mixed[i : i+1])
		}
		bytewise.End()
		if want, got := released(whole), released(bytewise); got != want {
			t.Errorf("mode %d: byte by byte %+q, whole %+q", mode, got, want)
		}
	}
}

func TestHeldIsTheMostThatWaited(t *testing.T) {
	for _, c := range []struct {
		text string
		held [4]int
		end  [4]int
	}{
		{"", [4]int{}, [4]int{}},
		{"a", [4]int{}, [4]int{}},
		{"a\u0301", [4]int{1, 1, 1, 1}, [4]int{1, 1, 1, 1}},
		{"a\u0301\u0300b\u0323", [4]int{2, 2, 2, 2}, [4]int{2, 2, 2, 2}},
		{"a\u0301b\u0301\u0300\u0344", [4]int{4, 4, 4, 4}, [4]int{4, 4, 4, 4}},
		{"\u0345\u0345\u0345", [4]int{3, 3, 3, 3}, [4]int{3, 3, 3, 3}},
		{"\uff9e\uff9e", [4]int{0, 2, 0, 2}, [4]int{0, 2, 0, 2}}, // in AlikeCase the second stage's
		{"\uff9e\u0338\u0301", [4]int{2, 3, 2, 2}, [4]int{2, 3, 2, 3}},
		{"a\u0301\xc3", [4]int{1, 1, 1, 1}, [4]int{1, 1, 1, 1}},
	} {
		for mode := api.Same; mode <= api.AlikeCase; mode++ {
			l := newLine(t, mode)
			l.Put(c.text)
			if got, want := l.Held(), c.held[mode]; got != want {
				t.Errorf("mode %d, %+q: Held %d, want %d", mode, c.text, got, want)
			}
			l.End()
			if got, want := l.Held(), c.end[mode]; got != want {
				t.Errorf("mode %d, %+q: Held %d behind the end, want %d", mode, c.text, got, want)
			}
		}
	}
}
