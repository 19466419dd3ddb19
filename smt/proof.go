package smt

import (
	"slices"

	"muniment/api"
)

// Prove is a proof of what a key has.
func (t *Tree) Prove(key string) api.Proof {
	beside, end := topOf(t).find(Path(key))
	if end == nil {
		return api.Proof{Beside: beside}
	}
	return api.Proof{Beside: beside, Has: true, Leaf: end.leaf}
}

// Verify tells what a proof shows of a key under a root: that it has a value, or none; false: it shows nothing.
func Verify(root, key, value string, has bool, p api.Proof) bool {
	if !isWhole(p) {
		return false
	}
	path := Path(key)
	own := p.Has && p.Leaf.Path == path
	if has != own || own && p.Leaf.Value != Value(value) {
		return false
	}
	// A leaf that is not on the key's way shows nothing of the key, wherever its digest leads to.
	if p.Has && shared(p.Leaf.Path, path) < len(p.Beside) {
		return false
	}
	return climb(path, p) == root
}

// isWhole tells whether a proof has no more digests than a way down has halves, and all are digests, the leaf's, too.
func isWhole(p api.Proof) bool {
	if len(p.Beside) > pathBits || p.Has && !(isDigest(p.Leaf.Path) && isDigest(p.Leaf.Value)) {
		return false
	}
	for _, beside := range p.Beside {
		if !isDigest(beside) {
			return false
		}
	}
	return true
}

// isDigest tells whether a text is as long as a digest.
func isDigest(s string) bool { return len(s) == api.HashBytes }

// shared is how far down the ways of two paths are one.
func shared(a, b string) int {
	for depth, at := range way(a) {
		if at != side(b, depth) {
			return depth
		}
	}
	return pathBits
}

// climb is the digest to which a proof leads on a path's way up.
func climb(path string, p api.Proof) string {
	up := Empty()
	if p.Has {
		up = LeafHash(p.Leaf)
	}
	for depth, beside := range slices.Backward(p.Beside) {
		two := [2]string{beside, beside}
		two[side(path, depth)] = up
		up = Join(two[0], two[1])
	}
	return up
}
