package stage

import (
	"unicode/utf8"

	"equate/api"
	"equate/queue"
	"equate/table"
)

// Line is a mode's stages, one behind the other: bytes go in, the code points of the form come out.
type Line struct {
	bytes  queue.Queue[byte]
	stages []Stage
}

// NewLine makes the stages of a mode; ErrMode if there is no such mode.
func NewLine(mode int) (*Line, api.Errno) {
	kinds := kindsOf(mode)
	if len(kinds) == 0 {
		return nil, api.ErrMode
	}
	t := table.New()
	stages := make([]Stage, len(kinds))
	for i, compatible := range kinds {
		stages[i] = Stage{Table: t, compatible: compatible, folds: i > 0}
	}
	return &Line{stages: stages}, api.OK
}

// kindsOf tells of each stage of a mode whether it is compatible.
func kindsOf(mode int) []bool {
	switch mode {
	case api.Same:
		return []bool{false}
	case api.Alike:
		return []bool{true}
	case api.SameCase:
		return []bool{false, false}
	case api.AlikeCase:
		return []bool{false, true, true}
	}
	return nil
}

// Put lets bytes go in, as far as they are code points for sure.
func (l *Line) Put(text string) {
	l.bytes.Put([]byte(text)...)
	for utf8.FullRune(l.bytes.Waiting()) {
		l.enter()
	}
}

// End tells that no more bytes come: nothing waits behind it.
func (l *Line) End() {
	for l.bytes.Len() > 0 {
		l.enter()
	}
	for i := range l.stages {
		l.stages[i].Release()
		l.handOn(i)
	}
}

// Take removes the next code point of the form; false if none is released.
func (l *Line) Take() (rune, bool) { return l.stages[len(l.stages)-1].Take() }

func (l *Line) enter() {
	c, size := utf8.DecodeRune(l.bytes.Waiting())
	l.bytes.Drop(size)
	l.stages[0].Put(c)
	l.handOn(0)
}

// handOn lets what a stage released go through those behind it.
func (l *Line) handOn(from int) {
	for i := from; i+1 < len(l.stages); i++ {
		for c, ok := l.stages[i].Take(); ok; c, ok = l.stages[i].Take() {
			l.stages[i+1].Put(c)
		}
	}
}
