package source

import "equate/api"

// GaveUp is what a source panics with when it cannot go on: nothing between it and the one who began to read can mend that, so nothing there has to hear of it.
type GaveUp struct{ Why api.Errno }

// Chunks is a text that comes chunk by chunk.
type Chunks struct {
	list  []api.Chunk
	reads int
	idle  int
}

// NewChunks is a list of chunks of which none was read yet.
func NewChunks(list []api.Chunk) *Chunks { return &Chunks{list: list} }

// Ended tells that nothing is left to read.
func (c *Chunks) Ended() bool { return c.reads == len(c.list) }

// Reads is how many chunks were read, one at which the source gave up too.
func (c *Chunks) Reads() int { return c.reads }

// Read takes the next chunk and gives its bytes; there are none behind the last. It may panic with a GaveUp.
func (c *Chunks) Read() string {
	if c.Ended() {
		return ""
	}
	next := c.list[c.reads]
	c.reads++
	refuseKind(next.Kind)
	c.losePatience(next.Text)
	return next.Text
}

func refuseKind(kind int) {
	switch kind {
	case api.Some:
	case api.Fails:
		panic(GaveUp{api.ErrSource})
	default:
		panic(GaveUp{api.ErrCount})
	}
}

func (c *Chunks) losePatience(text string) {
	if text != "" {
		c.idle = 0
		return
	}
	c.idle++
	if c.idle == api.Patience {
		panic(GaveUp{api.ErrProgress})
	}
}
