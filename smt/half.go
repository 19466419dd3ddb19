package smt

import (
	"iter"
	"slices"

	"muniment/api"
)

const pathBits = 8 * api.HashBytes // of a path: the longest way down

// half is the leaves below a place; a nil one has none. Once made it is never changed: trees and their clones share it.
type half struct {
	digest string
	leaves int
	leaf   api.Leaf // where it is one leaf alone
	halves [2]*half // where it is not
}

// alone is a half of one leaf.
func alone(l api.Leaf) *half { return &half{digest: LeafHash(l), leaves: 1, leaf: l} }

// joined is the half of two halves. One leaf alone rises into its place, so that what was taken away leaves no trace.
func joined(two [2]*half) *half {
	n := two[0].count() + two[1].count()
	if n > 1 {
		return &half{digest: Join(two[0].hash(), two[1].hash()), leaves: n, halves: two}
	}
	if two[0] != nil {
		return two[0]
	}
	return two[1]
}

// hash is a half's digest.
func (h *half) hash() string {
	if h == nil {
		return Empty()
	}
	return h.digest
}

// count is how many leaves a half has.
func (h *half) count() int {
	if h == nil {
		return 0
	}
	return h.leaves
}

// isLeafAt tells whether a half is the leaf of a path.
func (h *half) isLeafAt(path string) bool { return h.count() == 1 && h.leaf.Path == path }

// side tells in which half a path goes on, so deep.
func side(path string, depth int) int { return int(path[depth/8]>>(7-depth%8)) & 1 }

// way is the sides of a path from the root down, each with its depth.
func way(path string) iter.Seq2[int, int] {
	return func(yield func(int, int) bool) {
		for depth := range pathBits {
			if !yield(depth, side(path, depth)) {
				return
			}
		}
	}
}

// find goes a path's way down: the digests beside it, the root's first, and the half at its end, which is a leaf or has none.
func (h *half) find(path string) ([]string, *half) {
	var beside []string
	for _, at := range way(path) {
		if h.count() < 2 {
			break
		}
		beside = append(beside, h.halves[1-at].hash())
		h = h.halves[at]
	}
	return beside, h
}

// step is a half on a way down: its two halves, and in which of them the way goes on.
type step struct {
	halves [2]*half
	at     int
}

// with is the half that has another end at a path: a leaf of it, or none.
func (h *half) with(path string, end *half) *half {
	var steps []step
	for depth, at := range way(path) {
		if h == nil || h.isLeafAt(path) {
			break
		}
		s := step{halves: h.opened(depth), at: at}
		steps = append(steps, s)
		h = s.halves[at]
	}
	for _, s := range slices.Backward(steps) {
		s.halves[s.at] = end
		end = joined(s.halves)
	}
	return end
}

// opened is the two halves of a half so deep. That of one leaf has it in one of them: there it stands when another leaf comes.
func (h *half) opened(depth int) [2]*half {
	if h.leaves > 1 {
		return h.halves
	}
	var two [2]*half
	two[side(h.leaf.Path, depth)] = h
	return two
}

// each hands out the leaves, by their paths, while they are wanted: whether they still are.
func (h *half) each(yield func(api.Leaf) bool) bool {
	if h == nil {
		return true
	}
	if h.leaves == 1 {
		return yield(h.leaf)
	}
	return h.halves[0].each(yield) && h.halves[1].each(yield)
}
