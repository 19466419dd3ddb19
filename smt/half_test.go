package smt

import (
	"slices"
	"strconv"
	"testing"

	"muniment/api"
)

// turned is a path with one bit turned.
func turned(path string, bit int) string {
	b := []byte(path)
	b[bit/8] ^= 0x80 >> (bit % 8)
	return string(b)
}

// lay puts a leaf at a path for which nobody knows a key: ways down that are long can be had so alone.
func lay(x *Tree, path, value string) {
	x.top = x.top.with(path, alone(api.Leaf{Path: path, Value: Value(value)}))
}

// Promises 7.1 to 7.3: two leaves that part at any bit, the last one, too: the root, the proof, and what is left of one.
func TestLeavesThatPartAtAnyBit(t *testing.T) {
	path := Path("a")
	mine := LeafHash(api.Leaf{Path: path, Value: Value("1")})
	for bit := range pathBits {
		other := api.Leaf{Path: turned(path, bit), Value: Value("2")}
		x, y := New(), New()
		x.Put("a", "1")
		lay(x, other.Path, "2")
		lay(y, other.Path, "2")
		y.Put("a", "1")
		p := x.Prove("a")
		want := append(slices.Repeat([]string{Empty()}, bit), LeafHash(other))
		if !slices.Equal(p.Beside, want) || x.Root() != y.Root() || x.Root() != climb(path, p) {
			t.Errorf("at %d: %d digests beside, the roots %x and %x", bit, len(p.Beside), x.Root(), y.Root())
		}
		if !Verify(x.Root(), "a", "1", true, p) || Verify(x.Root(), "a", "", false, p) {
			t.Errorf("at %d: what the key has is not shown", bit)
		}
		y.top = y.top.with(other.Path, nil)
		if y.Root() != mine || !x.Delete("a") || x.Root() != LeafHash(other) || !Verify(x.Root(), "a", "", false, x.Prove("a")) {
			t.Errorf("at %d: one of two is not the root alone", bit)
		}
	}
}

// Promises 7.1 to 7.3: leaves beside the whole of a key's way; the key comes and goes at the end of it.
func TestLeavesBesideAWholeWay(t *testing.T) {
	path := Path("a")
	x, y := New(), New()
	for bit := range pathBits {
		lay(x, turned(path, bit), strconv.Itoa(bit))
		lay(y, turned(path, pathBits-1-bit), strconv.Itoa(pathBits-1-bit))
	}
	root := x.Root()
	if y.Root() != root || x.Len() != pathBits {
		t.Errorf("%d leaves, the roots %x and %x", x.Len(), root, y.Root())
	}
	p := x.Prove("a")
	if len(p.Beside) != pathBits-1 || !p.Has || p.Leaf.Path != turned(path, pathBits-1) || !Verify(root, "a", "", false, p) {
		t.Errorf("without the key: %d digests beside, %t", len(p.Beside), p.Has)
	}
	x.Put("a", "1")
	p = x.Prove("a")
	if len(p.Beside) != pathBits || !p.Has || p.Leaf.Path != path || !Verify(x.Root(), "a", "1", true, p) || x.Len() != pathBits+1 {
		t.Errorf("with the key: %d digests beside, %t", len(p.Beside), p.Has)
	}
	last := ""
	for leaf := range x.All() {
		if leaf.Path <= last {
			t.Errorf("%x stands behind %x", leaf.Path, last)
		}
		last = leaf.Path
	}
	if !x.Delete("a") || x.Root() != root || x.Len() != pathBits {
		t.Errorf("the key is gone: %d leaves, the root %x, want %x", x.Len(), x.Root(), root)
	}
}

// The chapter's Ways: halves that a change does not touch are shared by a tree and its clone, not made anew.
func TestClonesShareHalves(t *testing.T) {
	x := New()
	for i := range 64 {
		x.Put(strconv.Itoa(i), "")
	}
	y := x.Clone()
	y.Put("0", "another")
	at := side(Path("0"), 0)
	if x.top == y.top || x.top.halves[at] == y.top.halves[at] || x.top.halves[1-at] != y.top.halves[1-at] {
		t.Error("the wrong halves are shared")
	}
}

// Promise 7.1: the bits of a path are gone over from the highest on, and a loop over them may stop.
func TestWay(t *testing.T) {
	path := "\x80\x01\xaa" + Path("a")[3:]
	want := []int{1, 0, 0, 0, 0, 0, 0, 0, 0, 0, 0, 0, 0, 0, 0, 1, 1, 0, 1, 0, 1, 0, 1, 0}
	var got []int
	for depth, at := range way(path) {
		if depth == len(want) {
			break
		}
		got = append(got, at)
	}
	if !slices.Equal(got, want) {
		t.Errorf("%d, want %d", got, want)
	}
	n := 0
	for range way(path) {
		n++
	}
	if n != pathBits {
		t.Errorf("%d bits", n)
	}
}
