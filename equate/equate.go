// Package equate: texts that are written otherwise and are the same: compared, ordered and hashed as they come: see DOC.md.
package equate

import (
	"cmp"
	"unicode/utf8"

	"equate/api"
	"equate/source"
	"equate/stage"
)

// Key tells the form of a text in a mode (P3).
func Key(mode int, s string) (string, api.Errno) {
	stages, e := stage.Of(mode)
	if e != api.OK {
		return "", e
	}
	form := stage.Begin(stages, source.NewWhole(s))
	var key []byte
	for c := form.Fetch(); c != stage.End; c = form.Fetch() {
		key = utf8.AppendRune(key, c)
	}
	return string(key), api.OK
}

// Cuts tells where a text may be cut in a mode (P4).
func Cuts(mode int, s string) ([]int, api.Errno) {
	stages, e := stage.Of(mode)
	if e != api.OK {
		return nil, e
	}
	var cuts []int
	for place, c := range s {
		if place > 0 && stages.MayCutAt(c) {
			cuts = append(cuts, place)
		}
	}
	return cuts, api.OK
}

// Compare compares two texts in a mode (P5).
func Compare(mode int, a string, b string) (int, api.Errno) {
	stages, e := stage.Of(mode)
	if e != api.OK {
		return 0, e
	}
	return order(stage.Begin(stages, source.NewWhole(a)), stage.Begin(stages, source.NewWhole(b))), api.OK
}

func order(a, b *stage.Reader) int {
	for {
		c, d := a.Fetch(), b.Fetch()
		if c != d || c == stage.End {
			return cmp.Compare(c, d)
		}
	}
}

// Hash tells the hash of a text in a mode (P6).
func Hash(mode int, s string) (uint64, api.Errno) {
	stages, e := stage.Of(mode)
	if e != api.OK {
		return 0, e
	}
	return hashOf(stage.Begin(stages, source.NewWhole(s))), api.OK
}

// Stream compares two sources in a mode, reading no more than it must (P7, P8).
func Stream(mode int, a []api.Chunk, b []api.Chunk) (api.Outcome, api.Errno) {
	stages, e := stage.Of(mode)
	if e != api.OK {
		return api.Outcome{}, e
	}
	chunksA, chunksB := source.NewChunks(a), source.NewChunks(b)
	formA, formB := stage.Begin(stages, chunksA), stage.Begin(stages, chunksB)
	var o api.Outcome
	e = tillGivenUp(func() {
		o.Sign = order(formA, formB)
		o.HeldA, o.HeldB = formA.Held(), formB.Held()
	})
	// The reads alone are told even beside an error.
	o.ReadA, o.ReadB = chunksA.Reads(), chunksB.Reads()
	return o, e
}

// Digest tells the hash of a source in a mode (P9).
func Digest(mode int, a []api.Chunk) (uint64, api.Errno) {
	stages, e := stage.Of(mode)
	if e != api.OK {
		return 0, e
	}
	form := stage.Begin(stages, source.NewChunks(a))
	var hash uint64
	e = tillGivenUp(func() { hash = hashOf(form) })
	return hash, e
}
