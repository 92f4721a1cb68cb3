// Package table: the classes, decompositions and foldings of code points.
package table

import (
	"strconv"
	"strings"

	"equate/api"
)

// Syllables follow from a rule and stand in no line.
const (
	firstSyllable = 0xAC00
	lastSyllable  = 0xD7A3
	firstLead     = 0x1100
	firstVowel    = 0x1161
	beforeTails   = 0x11A7
	tails         = 28
	vowelsByTails = 588
)

const caseDistance = 'a' - 'A'

type entry struct {
	class      int
	compatible bool
	parts      []rune
	folding    []rune
}

// Table tells what is known of a code point; one that is not in it has class 0.
type Table map[rune]entry

// New makes the table out of api.Data.
func New() Table { return Parse(api.Data) }

// Parse makes a table out of lines like those of api.Data.
func Parse(text string) Table {
	lines := strings.Split(text, "\n")
	t := make(Table, len(lines))
	for _, line := range lines {
		fields := strings.Fields(line)
		if len(fields) != 5 {
			continue
		}
		class, _ := strconv.Atoi(fields[1])
		t[codePoint(fields[0])] = entry{
			class:      class,
			compatible: fields[2] == "k",
			parts:      codePoints(fields[3]),
			folding:    codePoints(fields[4]),
		}
	}
	return t
}

func codePoint(text string) rune {
	n, _ := strconv.ParseInt(text, 16, 32)
	return rune(n)
}

func codePoints(text string) []rune {
	if text == "-" {
		return nil
	}
	words := strings.Split(text, "+")
	list := make([]rune, len(words))
	for i, word := range words {
		list[i] = codePoint(word)
	}
	return list
}

// Class is 0 for a starter, and something else for a mark.
func (t Table) Class(c rune) int { return t[c].class }

// Parts is the decomposition of a code point, one step of it: the canonical one, or, if compatible, the one of either kind. Without one it is empty.
func (t Table) Parts(c rune, compatible bool) []rune {
	if c >= firstSyllable && c <= lastSyllable {
		return syllable(c)
	}
	e := t[c]
	if e.compatible && !compatible {
		return nil
	}
	return e.parts
}

func syllable(c rune) []rune {
	n := c - firstSyllable
	parts := []rune{firstLead + n/vowelsByTails, firstVowel + n%vowelsByTails/tails}
	if tail := n % tails; tail != 0 {
		parts = append(parts, beforeTails+tail)
	}
	return parts
}

// Folding is what a code point is replaced by when it is folded. Without one it is empty.
func (t Table) Folding(c rune) []rune {
	if c >= 'A' && c <= 'Z' {
		return []rune{c + caseDistance}
	}
	return t[c].folding
}
