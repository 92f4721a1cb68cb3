package stage

import (
	"slices"
	"unicode/utf8"

	"equate/queue"
)

// Line is a mode's stages, one behind the other: bytes or code points go in, the code points of the form come out.
type Line struct {
	bytes  queue.Queue[byte]
	stages Stages
}

// NewLine makes a line of stages that have nothing in them. It takes copies, so that one call's lines share no more than the table.
func NewLine(stages Stages) *Line { return &Line{stages: slices.Clone(stages)} }

// Put lets bytes go in, as far as they are code points for sure.
func (l *Line) Put(text string) {
	l.bytes.Put([]byte(text)...)
	for utf8.FullRune(l.bytes.Waiting()) {
		l.enterBytes()
	}
}

// Enter lets a code point go in.
func (l *Line) Enter(c rune) {
	l.stages[0].Put(c)
	l.handOn(0)
}

// End tells that nothing more comes: nothing waits behind it.
func (l *Line) End() {
	for l.bytes.Len() > 0 {
		l.enterBytes()
	}
	for i := range l.stages {
		l.stages[i].Release()
		l.handOn(i)
	}
}

// Take removes the next code point of the form; false if none is released.
func (l *Line) Take() (rune, bool) { return l.stages[len(l.stages)-1].Take() }

// Held is the most marks that waited in one of the stages at one time.
func (l *Line) Held() int {
	most := 0
	for i := range l.stages {
		most = max(most, l.stages[i].Held())
	}
	return most
}

func (l *Line) enterBytes() {
	c, size := utf8.DecodeRune(l.bytes.Waiting())
	l.bytes.Drop(size)
	l.Enter(c)
}

// handOn lets what a stage released go through those behind it.
func (l *Line) handOn(from int) {
	for i := from; i+1 < len(l.stages); i++ {
		for c, ok := l.stages[i].Take(); ok; c, ok = l.stages[i].Take() {
			l.stages[i+1].Put(c)
		}
	}
}
