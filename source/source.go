// Package source: what texts come from.
package source

import (
	"unicode/utf8"
)

// Source is what a text comes from. There are two kinds, Whole and Chunks; each gives what it has in a way of its own.
type Source interface {
	// Ended tells that nothing is left to read.
	Ended() bool
}

// Whole is a text of which all bytes are there.
type Whole struct{ rest string }

// NewWhole is a text that was not read yet.
func NewWhole(text string) *Whole { return &Whole{rest: text} }

// Ended tells that nothing is left to read.
func (w *Whole) Ended() bool { return w.rest == "" }

// Next reads a code point.
func (w *Whole) Next() rune {
	c, size := utf8.DecodeRuneInString(w.rest)
	w.rest = w.rest[size:]
	return c
}
