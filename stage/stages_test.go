package stage

import (
	"math"
	"testing"

	"equate/api"
	"equate/source"
	"equate/table"
)

func stagesOf(t *testing.T, mode int) Stages {
	t.Helper()
	stages, e := Of(mode)
	if e != api.OK {
		t.Fatalf("Of(%d): %d", mode, e)
	}
	return stages
}

func TestNoSuchMode(t *testing.T) {
	for _, mode := range []int{-1, 4, math.MinInt, math.MaxInt} {
		if stages, e := Of(mode); stages != nil || e != api.ErrMode {
			t.Errorf("Of(%d) = %v, %d", mode, stages, e)
		}
	}
}

func TestAModesStages(t *testing.T) {
	for mode, want := range []int{1, 1, 2, 3} {
		if got := len(stagesOf(t, mode)); got != want {
			t.Errorf("mode %d has %d stages, want %d", mode, got, want)
		}
	}
}

func TestLinesOfTheSameStagesShareNothingThatWaits(t *testing.T) {
	stages := stagesOf(t, api.AlikeCase)
	a, b := NewLine(stages), NewLine(stages)
	a.Put("a\u0301\xe2")
	b.Put("b\u0323\x82\xac")
	a.End()
	b.End()
	if got, want := released(a), "a\u0301\ufffd"; got != want {
		t.Errorf("the one releases %+q, want %+q", got, want)
	}
	if got, want := released(b), "b\u0323\ufffd\ufffd"; got != want {
		t.Errorf("the other releases %+q, want %+q", got, want)
	}
}

type cutCase struct {
	c                                rune
	same, alike, sameCase, alikeCase bool
}

func checkMayCut(t *testing.T, of func(*testing.T, int) Stages, cases []cutCase) {
	t.Helper()
	for _, c := range cases {
		for mode, want := range []bool{c.same, c.alike, c.sameCase, c.alikeCase} {
			if got := of(t, mode).MayCutAt(c.c); got != want {
				t.Errorf("mode %d, %U: %t, want %t", mode, c.c, got, want)
			}
		}
	}
}

func TestWhereATextMayBeCut(t *testing.T) {
	checkMayCut(t, stagesOf, []cutCase{
		{'a', true, true, true, true},
		{'\u0301', false, false, false, false},
		{'\u0344', false, false, false, false},
		{'\u0345', false, false, false, false},
		{'\u0f73', false, false, false, false},
		{'\uff9e', true, false, true, false},
		{'\ufffd', true, true, true, true},
		{'\uac01', true, true, true, true},
	})
}

// What the document says holds for any table; in that of api.Data no code point goes these ways.
const otherTable = `0301 230 - - -
E000 0 c E001+0061 -
E001 0 c 0301 -
E002 0 - - 0301
E003 0 k E002 -
E004 0 k E005 -
E005 0 - - E006
E006 0 k 0301 -`

func otherStages(t *testing.T, mode int) Stages {
	stages := stagesOf(t, mode)
	for i := range stages {
		stages[i].Table = table.Parse(otherTable)
	}
	return stages
}

func TestWhereATextMayBeCutWithAnotherTable(t *testing.T) {
	checkMayCut(t, otherStages, []cutCase{
		{'\ue000', false, false, false, false}, // a mark in front, in two steps
		{'\ue002', true, true, false, false},   // its folding is a mark
		{'\ue003', true, true, true, false},    // compatibly it is that one
		{'\ue004', true, true, true, false},    // the last folding is compatibly a mark
		{'\ue006', true, false, true, false},
	})
}

func TestTheFormWithAnotherTable(t *testing.T) {
	for _, c := range []struct{ text, same, alike, sameCase, alikeCase string }{
		{"\ue000", "\u0301a", "\u0301a", "\u0301a", "\u0301a"},
		{"\ue002", "\ue002", "\ue002", "\u0301", "\u0301"},
		{"\ue003", "\ue003", "\ue002", "\ue003", "\u0301"},
		{"\ue004", "\ue004", "\ue005", "\ue004", "\u0301"},
		{"\ue005", "\ue005", "\ue005", "\ue006", "\u0301"},
	} {
		for mode, want := range []string{c.same, c.alike, c.sameCase, c.alikeCase} {
			if got := fetchAll(Begin(otherStages(t, mode), source.NewWhole(c.text))); got != want {
				t.Errorf("mode %d, %+q: %+q, want %+q", mode, c.text, got, want)
			}
		}
	}
}

// Marks that wait in a stage alone because of its own folding are held there.
func TestHeldWithAnotherTable(t *testing.T) {
	for _, c := range []struct {
		text string
		held [4]int
	}{
		{"\ue002\ue002", [4]int{0, 0, 2, 2}},
		{"\ue003\ue003\ue003", [4]int{0, 0, 0, 3}}, // the third stage's
		{"\ue003\ue003\u0301", [4]int{1, 1, 1, 2}},
		{"\ue003\ue002\u0301a", [4]int{1, 1, 2, 3}},
	} {
		for mode, want := range c.held {
			l := NewLine(otherStages(t, mode))
			l.Put(c.text)
			if got := l.Held(); got != want {
				t.Errorf("mode %d, %+q: Held %d, want %d", mode, c.text, got, want)
			}
		}
	}
}
