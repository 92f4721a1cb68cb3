package stage

import (
	"equate/api"
	"equate/table"
)

// Stages are those of a mode, the first one first.
type Stages []Stage

// Of makes the stages of a mode, with nothing in them; ErrMode if there is no such mode.
func Of(mode int) (Stages, api.Errno) {
	kinds := kindsOf(mode)
	if len(kinds) == 0 {
		return nil, api.ErrMode
	}
	t := table.New()
	stages := make(Stages, len(kinds))
	for i, compatible := range kinds {
		stages[i] = Stage{Table: t, compatible: compatible, folds: i > 0}
	}
	return stages, api.OK
}

// kindsOf tells of each stage of a mode whether it is compatible.
func kindsOf(mode int) []bool {
	switch mode {
	case api.Same:
		return []bool{false}
	case api.Alike:
		return []bool{true}
	case api.SameCase:
		return []bool{false, false}
	case api.AlikeCase:
		return []bool{false, true, true}
	}
	return nil
}

// MayCutAt tells whether a text may be cut ahead of a code point.
func (s Stages) MayCutAt(c rune) bool {
	for i := range s {
		c = s[i].first(c)
		// A starter in front stays there whatever is ordered behind it: the next stage need not see more.
		if s[i].Class(c) != 0 {
			return false
		}
	}
	return true
}
