package equate

import (
	"errors"
	"math"
	"testing"

	"equate/api"
	"equate/source"
)

// givingUp are sources that give up at once, with the reads till then.
func givingUp() []struct {
	list  []api.Chunk
	reads int
	want  api.Errno
} {
	return []struct {
		list  []api.Chunk
		reads int
		want  api.Errno
	}{
		{chunks(fails), 1, api.ErrSource},
		{chunks(fails, above), 1, api.ErrSource},
		{chunks(api.Chunk{Kind: api.Fails, Text: "a"}), 1, api.ErrSource}, // what stands in it does not matter
		{chunks(above), 1, api.ErrCount},
		{chunks(below, fails), 1, api.ErrCount},
		{chunks(api.Chunk{Kind: 2, Text: "a"}), 1, api.ErrCount},
		{chunks(api.Chunk{Kind: -1, Text: "a"}), 1, api.ErrCount},
		{chunks(api.Chunk{Kind: math.MaxInt}), 1, api.ErrCount},
		{chunks(api.Chunk{Kind: math.MinInt}), 1, api.ErrCount},
		{chunks(api.Chunk{Kind: 1 << 32}), 1, api.ErrCount}, // 0 in its lower half
		{empty(64), 64, api.ErrProgress},
		{chunks(empty(64), "a"), 64, api.ErrProgress},
		{chunks(empty(64), fails), 64, api.ErrProgress},
		{empty(1000), 64, api.ErrProgress},
		{chunks(empty(63), fails), 64, api.ErrSource},
		{chunks(empty(63), above), 64, api.ErrCount},
		{chunks("", fails), 2, api.ErrSource},
	}
}

func checkGivenUp(t *testing.T, a, b []api.Chunk, readA, readB int, want api.Errno) {
	t.Helper()
	for _, mode := range modes {
		got, e := Stream(mode, a, b)
		if got != (api.Outcome{ReadA: readA, ReadB: readB}) || e != want {
			t.Errorf("P8: Stream(%d, %s, %s) = %+v, %d, want the reads %d, %d and the error %d", mode, told(a), told(b), got, e, readA, readB, want)
		}
	}
}

func TestStreamOfASourceThatGivesUp(t *testing.T) {
	for _, c := range givingUp() {
		// The first source, whatever the second is: that is not read.
		for _, other := range [][]api.Chunk{nil, chunks("a"), chunks(fails), chunks(above), empty(64), c.list} {
			checkGivenUp(t, c.list, other, c.reads, 0, c.want)
		}
		checkGivenUp(t, chunks("a\u0301", "b", fails), c.list, 1, c.reads, c.want)
		checkGivenUp(t, chunks("a", fails), c.list, 1, c.reads, c.want)
		checkGivenUp(t, nil, c.list, 0, c.reads, c.want)
		checkGivenUp(t, chunks("\u0301"), c.list, 1, c.reads, c.want)

		// Behind what is the same, either, or both.
		late := chunks("x\u0301\u0323y", c.list)
		checkGivenUp(t, late, chunks("x\u0323\u0301yz", fails), 1+c.reads, 1, c.want)
		checkGivenUp(t, chunks("x\u0323\u0301yz", fails), late, 1, 1+c.reads, c.want)
		checkGivenUp(t, chunks("x\u0323\u0301y", "z", fails), late, 2, 1+c.reads, c.want)
		checkGivenUp(t, late, chunks("x\u0301\u0323", "y", fails), 1+c.reads, 2, c.want)
		checkGivenUp(t, late, late, 1+c.reads, 1, c.want)
	}
}

func TestStreamOfSourcesThatGiveUpWhileSomethingWaits(t *testing.T) {
	for _, c := range givingUp() {
		for _, waits := range []string{"\u0301", "\xc3", "\xe2\x82", "\xf0\x9d\x90"} {
			checkGivenUp(t, chunks("a"+waits, c.list), chunks("ab"), 1+c.reads, 1, c.want)
			checkGivenUp(t, chunks("ab"), chunks("a"+waits, c.list), 1, 1+c.reads, c.want)
		}
	}
	checkGivenUp(t, chunks("\xe2", "\x82", "\xac", fails), chunks("\u20ac", "a"), 4, 1, api.ErrSource)
	checkGivenUp(t, chunks("a\u0301", fails), chunks("a\u0301"), 2, 1, api.ErrSource)
}

func TestPatience(t *testing.T) {
	checkStream(t, modes, []streamCase{
		{empty(63), nil, outcome(0, 63, 0, 0, 0)},
		{empty(63), empty(63), outcome(0, 63, 63, 0, 0)},
		{chunks(empty(63), "a", fails), chunks("b", fails), outcome(-1, 64, 1, 0, 0)},
		{chunks(empty(63), "a", empty(63), "b", empty(63)), chunks("ab"), outcome(0, 191, 1, 0, 0)}, // each time anew
		{chunks("a", empty(63), "c", fails), chunks("a", empty(63), "b", fails), outcome(1, 65, 65, 0, 0)},
		{chunks("\xc3", empty(63), "\xa9", empty(63), "x"), chunks("\u00e9y"), outcome(-1, 129, 1, 1, 1)},
		{chunks("a", empty(64)), chunks("b", empty(64)), outcome(-1, 1, 1, 0, 0)}, // they are not read
	})
	// What gives bytes of which nothing is released has given something.
	checkStream(t, modes, []streamCase{
		{chunks(empty(63), "\xc3", empty(63), "\xa9", empty(63)), chunks("\u00e9"), outcome(0, 191, 1, 1, 1)},
		{chunks("a", empty(40), "\u0301", empty(40), "\u0301", empty(40)), chunks("b"), outcome(-1, 1, 1, 0, 0)},
		{chunks("\u0301", empty(63), "\u0301", empty(63)), chunks("\u0301\u0301"), outcome(0, 128, 1, 2, 2)},
	})
	// It is each source's own.
	checkStream(t, modes, []streamCase{{chunks(empty(40), "a", empty(40)), chunks(empty(40), "a", empty(40)), outcome(0, 81, 81, 0, 0)}})
}

func TestOnlyASourceGivesUp(t *testing.T) {
	if e := tillGivenUp(func() {}); e != api.OK {
		t.Errorf("without a panic: %d", e)
	}
	if e := tillGivenUp(func() { panic(source.GaveUp{Why: api.ErrCount}) }); e != api.ErrCount {
		t.Errorf("a source that gave up: %d", e)
	}
	slip := errors.New("slip")
	defer func() {
		if caught := recover(); caught != slip {
			t.Errorf("another panic became %v", caught)
		}
	}()
	tillGivenUp(func() { panic(slip) })
}
