package smt_test

import (
	"crypto/sha256"
	"encoding/binary"
	"maps"
	"slices"
	"strconv"
	"strings"
	"testing"

	"muniment/api"
	"muniment/smt"
)

// plain is the digest of parts for a purpose, by the library.
func plain(purpose byte, parts ...string) string {
	all := []byte{purpose}
	for _, p := range parts {
		all = binary.BigEndian.AppendUint32(all, uint32(len(p)))
		all = append(all, p...)
	}
	sum := sha256.Sum256(all)
	return string(sum[:])
}

// noughts is the digest of a half without leaves.
var noughts = string(make([]byte, 32))

// isRight tells whether a path goes into the second half, so deep.
func isRight(path string, depth int) bool { return path[depth/8]&(0x80>>(depth%8)) != 0 }

// bitsOf is a text's bits, the highest first.
func bitsOf(s string) string {
	var out strings.Builder
	for i := range len(s) {
		bits := strconv.FormatUint(uint64(s[i]), 2)
		out.WriteString(strings.Repeat("0", 8-len(bits)) + bits)
	}
	return out.String()
}

// plainLeaves is the leaves of keys and their values, by their paths.
func plainLeaves(has map[string]string) []api.Leaf {
	var out []api.Leaf
	for key, value := range has {
		out = append(out, api.Leaf{Path: plain('P', key), Value: plain('V', value)})
	}
	slices.SortFunc(out, func(a, b api.Leaf) int { return strings.Compare(a.Path, b.Path) })
	return out
}

// plainRoot is the digest of leaves below a place so deep, by the chapter's words.
func plainRoot(l []api.Leaf, depth int) string {
	switch len(l) {
	case 0:
		return noughts
	case 1:
		return plain('L', l[0].Path, l[0].Value)
	}
	two := halvesOf(l, depth)
	return plain('J', plainRoot(two[0], depth+1), plainRoot(two[1], depth+1))
}

// halvesOf is leaves by their bit, so deep.
func halvesOf(l []api.Leaf, depth int) [2][]api.Leaf {
	var two [2][]api.Leaf
	for _, x := range l {
		if isRight(x.Path, depth) {
			two[1] = append(two[1], x)
		} else {
			two[0] = append(two[0], x)
		}
	}
	return two
}

// plainProof is the proof of a path by the chapter's words.
func plainProof(l []api.Leaf, path string) api.Proof {
	var p api.Proof
	for depth := 0; len(l) > 1; depth++ {
		two := halvesOf(l, depth)
		way, beside := two[0], two[1]
		if isRight(path, depth) {
			way, beside = beside, way
		}
		p.Beside = append(p.Beside, plainRoot(beside, depth+1))
		l = way
	}
	if len(l) == 1 {
		p.Has, p.Leaf = true, l[0]
	}
	return p
}

// leadsTo is where a proof leads to on a path's way, from a place so deep on.
func leadsTo(path string, p api.Proof, depth int) string {
	if depth < len(p.Beside) {
		below := leadsTo(path, p, depth+1)
		if isRight(path, depth%256) {
			return plain('J', p.Beside[depth], below)
		}
		return plain('J', below, p.Beside[depth])
	}
	if p.Has {
		return plain('L', p.Leaf.Path, p.Leaf.Value)
	}
	return noughts
}

// treeOf is a tree of keys and their values.
func treeOf(t *testing.T, has map[string]string) *smt.Tree {
	t.Helper()
	out := smt.New()
	for _, key := range slices.Sorted(maps.Keys(has)) {
		if e := out.Put(key, has[key]); e != api.OK {
			t.Fatalf("Put of %q: %d", key, e)
		}
	}
	return out
}

// many is so many keys, with their values.
func many(n int) map[string]string {
	out := map[string]string{}
	for i := range n {
		out["key "+strconv.Itoa(i)] = "value " + strconv.Itoa(i)
	}
	return out
}

// keysThatPart is two keys whose paths have just so many bits in common, at most 30.
func keysThatPart(t *testing.T, depth int) (string, string) {
	t.Helper()
	seen := map[uint32]string{}
	for i := range 1 << 19 {
		key := strconv.Itoa(i)
		first := binary.BigEndian.Uint32([]byte(plain('P', key)))
		want := first>>(31-depth) ^ 1 // the same bits ahead, and another one behind them
		if other, is := seen[want]; is {
			return other, key
		}
		seen[first>>(31-depth)] = key
	}
	t.Fatalf("no two keys part at %d", depth)
	return "", ""
}

// holds holds a tree against keys and their values: all that it tells, and that its proofs are verified.
func holds(t *testing.T, why string, x *smt.Tree, has map[string]string) {
	t.Helper()
	leaves := plainLeaves(has)
	root := plainRoot(leaves, 0)
	if x.Root() != root || x.Len() != len(has) {
		t.Errorf("%s: %d keys, the root %x, want %d, %x", why, x.Len(), x.Root(), len(has), root)
	}
	if got := slices.Collect(x.All()); !slices.Equal(got, leaves) {
		t.Errorf("%s: the leaves %x, want %x", why, got, leaves)
	}
	for key, value := range has {
		if got, is := x.Get(key); !is || got != plain('V', value) {
			t.Errorf("%s: %q has %x, %t", why, key, got, is)
		}
		if p := x.Prove(key); !smt.Verify(root, key, value, true, p) || !alike(p, plainProof(leaves, plain('P', key))) {
			t.Errorf("%s: the proof of %q: %#v", why, key, p)
		}
	}
	for i := range 10 {
		key := "nobody's " + strconv.Itoa(i)
		if got, is := x.Get(key); is || got != "" {
			t.Errorf("%s: %q has %x, %t", why, key, got, is)
		}
		if p := x.Prove(key); !smt.Verify(root, key, "", false, p) || !alike(p, plainProof(leaves, plain('P', key))) {
			t.Errorf("%s: the proof of %q: %#v", why, key, p)
		}
	}
}

// alike tells whether two proofs are the same.
func alike(a, b api.Proof) bool {
	return slices.Equal(a.Beside, b.Beside) && a.Has == b.Has && a.Leaf == b.Leaf
}
