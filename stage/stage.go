// Package stage: the stages that bring a text into a mode's form.
package stage

import (
	"cmp"
	"slices"

	"equate/queue"
	"equate/table"
)

// Stage takes code points apart and orders their marks.
type Stage struct {
	table.Table
	compatible bool
	folds      bool
	marks      queue.Queue[rune]
	held       int
	released   queue.Queue[rune]
}

// Put lets a code point go in.
func (s *Stage) Put(c rune) {
	folding := s.foldingOf(c)
	if len(folding) == 0 {
		s.takeApart(c)
	}
	for _, f := range folding {
		s.takeApart(f)
	}
}

func (s *Stage) foldingOf(c rune) []rune {
	if !s.folds {
		return nil
	}
	return s.Folding(c)
}

func (s *Stage) takeApart(c rune) {
	parts := s.Parts(c, s.compatible)
	if len(parts) == 0 {
		s.place(c)
	}
	for _, part := range parts {
		s.takeApart(part)
	}
}

func (s *Stage) place(c rune) {
	if s.Class(c) != 0 {
		s.marks.Put(c)
		s.held = max(s.held, s.marks.Len())
		return
	}
	s.Release()
	s.released.Put(c)
}

// Release hands on the marks that wait.
func (s *Stage) Release() {
	marks := s.marks.Waiting()
	// Marks of one class must stay as they stood, so the sort has to be a stable one.
	slices.SortStableFunc(marks, func(a, b rune) int { return cmp.Compare(s.Class(a), s.Class(b)) })
	s.released.Put(marks...)
	s.marks.Drop(len(marks))
}

// first is the code point that what comes out begins with, if one goes in alone.
func (s *Stage) first(c rune) rune {
	if folding := s.foldingOf(c); len(folding) > 0 {
		c = folding[0]
	}
	for parts := s.Parts(c, s.compatible); len(parts) > 0; parts = s.Parts(c, s.compatible) {
		c = parts[0]
	}
	return c
}

// Take removes the first code point that was released; false if there is none.
func (s *Stage) Take() (rune, bool) { return s.released.Take() }

// Held is the most marks that waited at one time.
func (s *Stage) Held() int { return s.held }
