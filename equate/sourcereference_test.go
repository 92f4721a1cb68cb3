package equate

import (
	"cmp"

	"equate/api"
)

// coming is a source as the document's words have it: what is released and what waited is worked out anew, from all bytes that were read, whenever it is asked.
type coming struct {
	ref     reference
	mode    int
	list    []api.Chunk
	text    string
	reads   int
	idle    int
	ended   bool
	fetched int
}

// read takes the next chunk, or tells that the source has ended.
func (s *coming) read() api.Errno {
	if s.reads == len(s.list) {
		s.ended = true
		return api.OK
	}
	next := s.list[s.reads]
	s.reads++
	switch {
	case next.Kind == 1:
		return api.ErrSource
	case next.Kind != 0:
		return api.ErrCount
	case next.Text != "":
		s.idle = -1
	}
	s.text += next.Text
	s.idle++
	if s.idle == 64 {
		return api.ErrProgress
	}
	return api.OK
}

// fetch gives -1 if there is none any more.
func (s *coming) fetch() (rune, api.Errno) {
	form, _ := s.released()
	for len(form) == s.fetched && !s.ended {
		if e := s.read(); e != api.OK {
			return 0, e
		}
		form, _ = s.released()
	}
	if len(form) == s.fetched {
		return -1, api.OK
	}
	s.fetched++
	return form[s.fetched-1], api.OK
}

// released is what the last stage released so far, and the most marks that stood side by side in a stage.
func (s *coming) released() (list []rune, held int) {
	list, places := codePoints(s.text)
	for at, place := range places {
		if !s.ended && isBeginning(s.text[place:]) {
			list = list[:at]
			break
		}
	}
	for i, by := range s.ref.kinds(s.mode) {
		if i > 0 {
			list = replaced(list, s.ref.folding)
		}
		list = takenApart(list, by)
		most, last := s.ref.runs(list)
		held = max(held, most)
		if !s.ended {
			list = list[:len(list)-last]
		}
		list = s.ref.ordered(list)
	}
	return list, held
}

// runs tells how many marks stand side by side, at most and at the end.
func (r reference) runs(list []rune) (most, last int) {
	for _, c := range list {
		last++
		if r.class[c] == 0 {
			last = 0
		}
		most = max(most, last)
	}
	return most, last
}

// isBeginning tells whether bytes could become a code point, but are none yet.
func isBeginning(s string) bool {
	if _, ok := oneCodePoint(s); ok || len(s) > 3 {
		return false
	}
	for _, more := range []string{"\x80", "\xbf"} {
		if _, ok := oneCodePoint(s + more); ok || isBeginning(s+more) {
			return true
		}
	}
	return false
}

func (r reference) stream(mode int, a, b []api.Chunk) (api.Outcome, api.Errno) {
	one, other := &coming{ref: r, mode: mode, list: a}, &coming{ref: r, mode: mode, list: b}
	for {
		c, e := one.fetch()
		if e != api.OK {
			return api.Outcome{ReadA: one.reads, ReadB: other.reads}, e
		}
		d, e := other.fetch()
		if e != api.OK {
			return api.Outcome{ReadA: one.reads, ReadB: other.reads}, e
		}
		if c != d || c == -1 {
			_, heldA := one.released()
			_, heldB := other.released()
			return api.Outcome{Sign: cmp.Compare(c, d), ReadA: one.reads, ReadB: other.reads, HeldA: heldA, HeldB: heldB}, api.OK
		}
	}
}
