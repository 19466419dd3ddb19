package tree

import (
	"slices"

	"muniment/api"
	"muniment/sha"
)

// Verify tells whether a proof shows that a thing stands at a place of a list of so many, with that root.
func Verify(root, s string, i, n int, proof []string) bool {
	texts, is := climb(s, i, n, proof)
	return is && top(texts) == root
}

// Extract is two unlike texts of one digest, of two proofs that show unlike things at one place under one root; false: they do not.
func Extract(a, b string, i, n int, p, q []string) (api.Witness, bool) {
	x, isX := climb(a, i, n, p)
	y, isY := climb(b, i, n, q)
	if a == b || !isX || !isY || top(x) != top(y) {
		return api.Witness{}, false
	}
	// The lowest texts are unlike, and the highest have one digest; up to the first that have one, unlike digests stand in the next, so those are unlike, too.
	for k := range x {
		if w := (api.Witness{A: x[k], B: y[k]}); sha.Collide(w) {
			return w, true
		}
	}
	return api.Witness{}, false
}

// climb is the texts that are digested on the way from a thing up to the root, the leaf's first; false: it is no proof of that place of so many.
func climb(s string, i, n int, proof []string) ([]string, bool) {
	if !isPlace(i, n) {
		return nil, false
	}
	sides := ahead(i, n)
	if len(proof) != len(sides) {
		return nil, false
	}
	texts := []string{leafMark + s}
	for k, beside := range proof {
		if len(beside) != api.HashBytes {
			return nil, false
		}
		a, b := top(texts), beside
		if sides[k] {
			a, b = b, a
		}
		texts = append(texts, halves(a, b))
	}
	return texts, true
}

// top is the digest of the last text of a way up.
func top(texts []string) string { return sha.Sum(texts[len(texts)-1]) }

// ahead tells of each step up from a place of so many, the lowest first, whether the half beside stands ahead.
func ahead(i, n int) []bool {
	var out []bool
	for n > 1 {
		k := cut(n)
		is := i >= k
		if is {
			i, n = i-k, n-k
		} else {
			n = k
		}
		out = append(out, is)
	}
	slices.Reverse(out)
	return out
}
