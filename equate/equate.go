// Package equate: texts that are written otherwise and are the same: compared, ordered and hashed as they come: see DOC.md.
package equate

import (
	"unicode/utf8"

	"equate/api"
	"equate/stage"
)

// Key tells the form of a text in a mode (P3).
func Key(mode int, s string) (string, api.Errno) {
	line, e := stage.NewLine(mode)
	if e != api.OK {
		return "", e
	}
	line.Put(s)
	line.End()
	var key []byte
	for c, ok := line.Take(); ok; c, ok = line.Take() {
		key = utf8.AppendRune(key, c)
	}
	return string(key), api.OK
}

// Cuts tells where a text may be cut in a mode (P4).
func Cuts(mode int, s string) ([]int, api.Errno) { return nil, api.OK }

// Compare compares two texts in a mode (P5).
func Compare(mode int, a string, b string) (int, api.Errno) { return 0, api.OK }

// Hash tells the hash of a text in a mode (P6).
func Hash(mode int, s string) (uint64, api.Errno) {
	key, e := Key(mode, s)
	if e != api.OK {
		return 0, e
	}
	return hashOf(key), api.OK
}

// Stream compares two sources in a mode, reading no more than it must (P7, P8).
func Stream(mode int, a []api.Chunk, b []api.Chunk) (api.Outcome, api.Errno) {
	return api.Outcome{}, api.OK
}

// Digest tells the hash of a source in a mode (P9).
func Digest(mode int, a []api.Chunk) (uint64, api.Errno) { return 0, api.OK }
