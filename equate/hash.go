package equate

const (
	hashStart  = 14695981039346656037
	hashFactor = 1099511628211
)

func hashOf(text string) uint64 {
	h := uint64(hashStart)
	for i := range len(text) {
		h = (h ^ uint64(text[i])) * hashFactor
	}
	return h
}
