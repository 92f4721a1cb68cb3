package equate

import (
	"equate/api"
	"equate/source"
)

// tillGivenUp does what reads sources, and tells why one of them gave up; OK if none did.
func tillGivenUp(do func()) (e api.Errno) {
	defer func() {
		if caught := recover(); caught != nil {
			e = reasonOf(caught)
		}
	}()
	do()
	return api.OK
}

func reasonOf(caught any) api.Errno {
	if up, ok := caught.(source.GaveUp); ok {
		return up.Why
	}
	// A slip of the program's own must not pass for a source's.
	panic(caught)
}
