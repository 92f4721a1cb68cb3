package table

import (
	"slices"
	"strings"
	"testing"

	"equate/api"
)

func TestEveryLineIsInTheTable(t *testing.T) {
	if lines, have := strings.Count(api.Data, "\n"), len(New()); have != lines {
		t.Errorf("%d lines, %d in the table", lines, have)
	}
}

func TestClass(t *testing.T) {
	table := New()
	for c, want := range map[rune]int{'a': 0, 0x301: 230, 0x323: 220, 0x338: 1, 0x344: 230, 0x345: 240, 0xF73: 0, 0x3099: 8, 0x1D165: 216, 0xAC00: 0, 0xFFFD: 0, 0x303: 0, -1: 0} {
		if got := table.Class(c); got != want {
			t.Errorf("Class(%x) = %d, want %d", c, got, want)
		}
	}
}

func TestParts(t *testing.T) {
	table := New()
	for _, c := range []struct {
		c                     rune
		canonical, compatible string
	}{
		{'a', "", ""},
		{0xC5, "A\u030a", "A\u030a"},
		{0x1EAD, "\u1ea1\u0302", "\u1ea1\u0302"},
		{0xDF, "", ""},
		{0xFB01, "", "fi"},
		{0xFF9E, "", "\u3099"},
		{0x1D15E, "\U0001d157\U0001d165", "\U0001d157\U0001d165"},
		{0xABFF, "", ""},
		{0xAC00, "\u1100\u1161", "\u1100\u1161"},
		{0xAC1B, "\u1100\u1161\u11c2", "\u1100\u1161\u11c2"},
		{0xAC1C, "\u1100\u1162", "\u1100\u1162"},
		{0xAE4C, "\u1101\u1161", "\u1101\u1161"},
		{0xD7A3, "\u1112\u1175\u11c2", "\u1112\u1175\u11c2"},
		{0xD7A4, "", ""},
	} {
		if got := string(table.Parts(c.c, false)); got != c.canonical {
			t.Errorf("Parts(%x, canonical) = %+q, want %+q", c.c, got, c.canonical)
		}
		if got := string(table.Parts(c.c, true)); got != c.compatible {
			t.Errorf("Parts(%x, compatible) = %+q, want %+q", c.c, got, c.compatible)
		}
	}
}

func TestFolding(t *testing.T) {
	table := New()
	for c, want := range map[rune]string{'@': "", 'A': "a", 'Z': "z", '[': "", 'a': "", 0xDF: "ss", 0x130: "i\u0307", 0x345: "\u03b9", 0x1FB3: "\u03b1\u03b9", 0xFB01: "fi", 0x1E9E: "ss", 0x1D400: "", 0xAC00: ""} {
		if got := string(table.Folding(c)); got != want {
			t.Errorf("Folding(%x) = %+q, want %+q", c, got, want)
		}
	}
}

func TestLetterFoldingsAreNotShared(t *testing.T) {
	table := New()
	table.Folding('A')[0] = 'x'
	if got := table.Folding('A'); !slices.Equal(got, []rune{'a'}) {
		t.Errorf("Folding(A) = %+q", string(got))
	}
}
