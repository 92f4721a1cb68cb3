package stage

import "equate/source"

// End stands behind the last code point. It is below all of them, so that what ends first comes first.
const End rune = -1

// Reader brings what comes from a source into a mode's form, and reads no more of it than is asked for.
type Reader struct {
	source source.Source
	line   *Line
	read   func()
	ended  bool
}

// Begin starts to read a source.
func Begin(stages Stages, from source.Source) *Reader {
	r := &Reader{source: from, line: NewLine(stages)}
	switch s := from.(type) {
	case *source.Whole:
		// All its bytes are there: none has to wait till it is sure what it begins.
		r.read = func() { r.line.Enter(s.Next()) }
	case *source.Chunks:
		r.read = func() { r.line.Put(s.Read()) }
	}
	return r
}

// Fetch gives the next code point of the form, or End. A list of chunks may give up there: see source.GaveUp.
func (r *Reader) Fetch() rune {
	for {
		if c, ok := r.line.Take(); ok {
			return c
		}
		if r.ended {
			return End
		}
		r.readOn()
	}
}

// Held is the most marks that waited in one of the stages at one time.
func (r *Reader) Held() int { return r.line.Held() }

func (r *Reader) readOn() {
	if r.source.Ended() {
		r.line.End()
		r.ended = true
		return
	}
	r.read()
}
