package equate

import (
	"fmt"
	"math/rand"

	"equate/api"
)

var (
	fails = api.Chunk{Kind: api.Fails}
	above = api.Chunk{Kind: 2}
	below = api.Chunk{Kind: -1}
)

// chunks makes a list of texts and chunks, one behind the other.
func chunks(things ...any) []api.Chunk {
	var list []api.Chunk
	for _, thing := range things {
		switch x := thing.(type) {
		case string:
			list = append(list, api.Chunk{Kind: api.Some, Text: x})
		case api.Chunk:
			list = append(list, x)
		case []api.Chunk:
			list = append(list, x...)
		}
	}
	return list
}

// told writes a list so that a failed test can be read.
func told(list []api.Chunk) string {
	text := fmt.Sprintf("%d chunks:", len(list))
	for _, c := range list[:min(len(list), 40)] {
		text += fmt.Sprintf(" %d %+.40q", c.Kind, c.Text)
	}
	return text
}

// empty makes a list of n chunks without bytes.
func empty(n int) []api.Chunk { return make([]api.Chunk, n) }

func bytewise(text string) []api.Chunk {
	var list []api.Chunk
	for i := range len(text) {
		list = append(list, api.Chunk{Text: text[i : i+1]})
	}
	return list
}

// anyhow cuts a text into chunks, some of them empty.
func anyhow(text string, by *rand.Rand) []api.Chunk {
	var list []api.Chunk
	for by.Intn(8) == 0 {
		list = append(list, empty(1+by.Intn(3))...)
	}
	for text != "" {
		n := 1 + by.Intn(min(len(text), 1+by.Intn(8)))
		list = append(list, api.Chunk{Text: text[:n]})
		text = text[n:]
		for by.Intn(6) == 0 {
			list = append(list, empty(1+by.Intn(3))...)
		}
	}
	return list
}

// spoiled puts something into a list that makes its source give up, or nearly.
func spoiled(list []api.Chunk, by *rand.Rand) []api.Chunk {
	at := by.Intn(len(list) + 1)
	bad := [][]api.Chunk{
		{fails}, {above}, {below}, {{Kind: api.Fails, Text: "a"}}, {{Kind: 1 << 40, Text: "a"}}, {{Kind: -1 << 40}},
		empty(60), empty(62), empty(63), empty(64), empty(65), chunks(empty(63), fails), chunks(empty(63), above), chunks(empty(63), "a"),
	}[by.Intn(14)]
	return chunks(list[:at], bad, list[at:])
}
