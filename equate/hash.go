package equate

import "equate/stage"

const (
	hashStart  = 14695981039346656037
	hashFactor = 1099511628211
)

// hashOf takes the code points as they come, so that no form has to be held whole to be hashed.
func hashOf(form *stage.Reader) uint64 {
	h := uint64(hashStart)
	for c := form.Fetch(); c != stage.End; c = form.Fetch() {
		for _, b := range []byte(string(c)) {
			h = (h ^ uint64(b)) * hashFactor
		}
	}
	return h
}
