package mac

import (
	"muniment/api"
	"muniment/sha"
)

// keyPurpose is what a ring's keys are digested for.
const keyPurpose = 'K'

// Ring is keys by numbers.
type Ring struct{ keys []string }

// NewRing is so many keys, drawn from a seed.
func NewRing(seed string, n int) (*Ring, api.Errno) {
	if n < 0 || n > api.MaxReplicas {
		return nil, api.ErrArg
	}
	r := &Ring{}
	for i := range n {
		number := string([]byte{byte(i)})
		r.keys = append(r.keys, sha.Tagged(keyPurpose, seed, number))
	}
	return r, api.OK
}

// Key is the key with a number.
func (r *Ring) Key(i int) (string, bool) {
	if i < 0 || i >= r.Len() {
		return "", false
	}
	return r.keys[i], true
}

// Len is how many keys there are.
func (r *Ring) Len() int {
	if r == nil {
		return 0
	}
	return len(r.keys)
}

// Tag is the tag of a text under the key with a number.
func (r *Ring) Tag(i int, s string) (string, api.Errno) {
	key, ok := r.Key(i)
	if !ok {
		return "", api.ErrNone
	}
	return Tag(key, s), api.OK
}

// Check tells whether a tag is that of a text under the key with a number.
func (r *Ring) Check(i int, s, tag string) bool {
	key, ok := r.Key(i)
	return ok && Check(key, s, tag) // a key that is missing is not an empty one: nothing is tagged under it
}
