package tree_test

import (
	"crypto/sha256"
	"encoding/hex"
	"math"
	"math/rand"
	"slices"
	"strconv"
	"strings"
	"testing"

	"muniment/api"
	"muniment/tree"
)

// plain is the library's digest.
func plain(s string) string {
	h := sha256.Sum256([]byte(s))
	return string(h[:])
}

// plainRoot is the root by the chapter's words, with powers of two tried one by one.
func plainRoot(l []string) string {
	if len(l) == 0 {
		return plain("")
	}
	if len(l) == 1 {
		return plain("\x00" + l[0])
	}
	k := 1
	for 2*k < len(l) {
		k *= 2
	}
	return plain("\x01" + plainRoot(l[:k]) + plainRoot(l[k:]))
}

// plainProof is the proof by RFC 6962, section 2.1.1, in its words: the half's own proof, and the other half's root behind it.
func plainProof(l []string, i int) []string {
	if len(l) == 1 {
		return nil
	}
	k := 1
	for 2*k < len(l) {
		k *= 2
	}
	if i < k {
		return append(plainProof(l[:k], i), plainRoot(l[k:]))
	}
	return append(plainProof(l[k:], i-k), plainRoot(l[:k]))
}

// plainVerify is RFC 9162, section 2.1.3.2: up from the leaf by the bits of the place and of the last place, without cuts.
func plainVerify(root, s string, i, n int, proof []string) bool {
	if i < 0 || i >= n {
		return false
	}
	at, last, up := uint64(i), uint64(n-1), plain("\x00"+s)
	for _, p := range proof {
		if last == 0 || len(p) != 32 {
			return false
		}
		if at%2 == 1 || at == last {
			up = plain("\x01" + p + up)
			for at%2 == 0 && at != 0 {
				at, last = at/2, last/2
			}
		} else {
			up = plain("\x01" + up + p)
		}
		at, last = at/2, last/2
	}
	return last == 0 && up == root
}

// things is so many unlike things.
func things(n int) []string {
	out := make([]string, n)
	for i := range out {
		out[i] = "thing " + strconv.Itoa(i)
	}
	return out
}

// lengths are the lengths of lists that are tried: all small ones, and those about powers of two.
func lengths() []int {
	var out []int
	for n := range 36 {
		out = append(out, n)
	}
	for _, n := range []int{64, 128, 256, 512} {
		out = append(out, n-1, n, n+1)
	}
	return out
}

// proof is the proof of a place that there is.
func proof(t *testing.T, l []string, i int) []string {
	t.Helper()
	p, e := tree.Prove(l, i)
	if e != api.OK {
		t.Fatalf("Prove at %d of %d: the error %d", i, len(l), e)
	}
	return p
}

// Promise 6.1, the chapter's example: the root of one thing is its leaf's digest.
func TestExample(t *testing.T) {
	for _, s := range []string{"a", "", "\x00", strings.Repeat("long ", 1000)} {
		if got := tree.Root([]string{s}); got != tree.Leaf(s) || got != plain("\x00"+s) {
			t.Errorf("of %.10q: %x", s, got)
		}
	}
}

// Promise 6.1: Leaf is the digest of the byte 0 and the thing.
func TestLeaf(t *testing.T) {
	for n := range 200 {
		s := strings.Repeat("x\x00\xff", n)
		if got := tree.Leaf(s); got != plain("\x00"+s) || len(got) != api.HashBytes {
			t.Errorf("of %d bytes: %x", len(s), got)
		}
	}
	if got := hex.EncodeToString([]byte(tree.Leaf(""))); got != "6e340b9cffb37a989ca544e6bb780a2c78901d3fb33738768511a30617afa01d" {
		t.Errorf("of nothing: %s", got)
	}
}

// Promise 6.1: the roots of RFC 6962's own trees, as the tests of Certificate Transparency have them.
func TestRootOfKnownLists(t *testing.T) {
	l := []string{
		"", "\x00", "\x10", "\x20\x21", "\x30\x31", "\x40\x41\x42\x43",
		"\x50\x51\x52\x53\x54\x55\x56\x57", "\x60\x61\x62\x63\x64\x65\x66\x67\x68\x69\x6a\x6b\x6c\x6d\x6e\x6f",
	}
	for n, want := range []string{
		"e3b0c44298fc1c149afbf4c8996fb92427ae41e4649b934ca495991b7852b855",
		"6e340b9cffb37a989ca544e6bb780a2c78901d3fb33738768511a30617afa01d",
		"fac54203e7cc696cf0dfcb42c92a1d9dbaf70ad9e621f4bd8d98662f00e3c125",
		"aeb6bcfe274b70a14fb067a5e5578264db0fa9b51af5e0ba159158f329e06e77",
		"d37ee418976dd95753c1c73862b9398fa2a2cf9b4ff0fdfe8b30cd95209614b7",
		"4e3bbb1f7b478dcfe71fb631631519a3bca12c9aefca1612bfce4c13a86264d4",
		"76e67dadbcdf1e10e1b74ddc608abd2f98dfb16fbce75277b5232a127f2087ef",
		"ddb89be403809e325750d3d263cd78929c2942b7942a34b77e122c9594a74c8c",
		"5dc9da79a70659a9ad559cb701ded9a2ab9d823aad2f4960cfe370eff4604328",
	} {
		if got := hex.EncodeToString([]byte(tree.Root(l[:n]))); got != want {
			t.Errorf("of %d: %s, want %s", n, got, want)
		}
	}
}

// Promise 6.1: Root at all lengths about powers of two.
func TestRootAtAllLengths(t *testing.T) {
	for _, n := range lengths() {
		l := things(n)
		if got := tree.Root(l); got != plainRoot(l) {
			t.Errorf("of %d: %x, want %x", n, got, plainRoot(l))
		}
	}
}

// Promise 6.1, rule R3: the root of an empty list is the digest of nothing, of a nil one, too.
func TestRootOfNothing(t *testing.T) {
	if tree.Root(nil) != plain("") || tree.Root([]string{}) != plain("") {
		t.Errorf("%x, %x", tree.Root(nil), tree.Root([]string{}))
	}
	if tree.Root([]string{""}) == tree.Root(nil) {
		t.Error("a list of an empty thing is not an empty list")
	}
}

// Promise 6.1: things that are empty, and things that are alike, each count.
func TestRootOfThingsThatAreAlike(t *testing.T) {
	seen := map[string]string{}
	for _, s := range []string{"", "a"} {
		for n := range 20 {
			l := slices.Repeat([]string{s}, n)
			root := tree.Root(l)
			if root != plainRoot(l) {
				t.Errorf("%d of %q: %x", n, s, root)
			}
			name := strconv.Itoa(n) + s
			if was, is := seen[root]; is && n > 0 {
				t.Errorf("%s and %s have one root", was, name)
			}
			seen[root] = name
		}
	}
}

// Promise 6.1: a thing that looks as two halves do is no two halves, and the order of things counts.
func TestRootTellsListsApart(t *testing.T) {
	l := []string{"a", "b"}
	if tree.Root([]string{tree.Leaf("a") + tree.Leaf("b")}) == tree.Root(l) {
		t.Error("a leaf has the root of two")
	}
	if tree.Root([]string{"b", "a"}) == tree.Root(l) || tree.Root([]string{"ab"}) == tree.Root(l) || tree.Root([]string{"ab", ""}) == tree.Root(l) {
		t.Error("an unlike list has the same root")
	}
}

// Promise 6.1: Prove tells the digests beside the way up, the lowest first.
func TestProve(t *testing.T) {
	l := []string{"a", "b", "c", "d", "e"}
	leaf := func(s string) string { return plain("\x00" + s) }
	two := func(a, b string) string { return plain("\x01" + a + b) }
	ab, cd := two(leaf("a"), leaf("b")), two(leaf("c"), leaf("d"))
	for i, want := range [][]string{
		{leaf("b"), cd, leaf("e")},
		{leaf("a"), cd, leaf("e")},
		{leaf("d"), ab, leaf("e")},
		{leaf("c"), ab, leaf("e")},
		{two(ab, cd)},
	} {
		if p, e := tree.Prove(l, i); e != api.OK || !slices.Equal(p, want) {
			t.Errorf("at %d: %x, %d, want %x", i, p, e, want)
		}
	}
	if p, e := tree.Prove(l[:1], 0); e != api.OK || len(p) != 0 {
		t.Errorf("of one: %x, %d", p, e)
	}
}

// Promise 6.1: Prove at each place of lists of all lengths about powers of two. Promise 6.3: what it proves is verified.
func TestProveAtAllPlaces(t *testing.T) {
	for _, n := range lengths() {
		l := things(n)
		root := tree.Root(l)
		for i, s := range l {
			p, e := tree.Prove(l, i)
			if e != api.OK || n < 70 && !slices.Equal(p, plainProof(l, i)) {
				t.Errorf("at %d of %d: %x, %d", i, n, p, e)
			}
			if !tree.Verify(root, s, i, n, p) || !plainVerify(root, s, i, n, p) {
				t.Errorf("at %d of %d: not verified", i, n)
			}
		}
	}
}

// Promise 6.1: ErrArg, where there is no such place, and no proof beside it.
func TestProveWithoutAPlace(t *testing.T) {
	for _, n := range []int{0, 1, 2, 3, 4, 5, 8, 9} {
		for _, i := range []int{-1, n, n + 1, -n, 2*n + 1, math.MinInt, math.MaxInt} {
			if i == 0 && n > 0 {
				continue
			}
			if p, e := tree.Prove(things(n), i); e != api.ErrArg || p != nil {
				t.Errorf("at %d of %d: %x, %d", i, n, p, e)
			}
		}
	}
	if p, e := tree.Prove(nil, 0); e != api.ErrArg || p != nil {
		t.Errorf("of nil: %x, %d", p, e)
	}
}

// Promises 6.1 and 6.3: things that are empty, or alike, or whatever bytes, are proved at each of their places.
func TestProveOfAnyThings(t *testing.T) {
	rnd := rand.New(rand.NewSource(6))
	for range 300 {
		l := make([]string, 1+rnd.Intn(20))
		for i := range l {
			b := make([]byte, rnd.Intn(4))
			for k := range b {
				b[k] = byte(rnd.Intn(3))
			}
			l[i] = string(b)
		}
		root := tree.Root(l)
		if root != plainRoot(l) {
			t.Fatalf("the root of %q: %x", l, root)
		}
		for i, s := range l {
			p := proof(t, l, i)
			if !slices.Equal(p, plainProof(l, i)) || !tree.Verify(root, s, i, len(l), p) {
				t.Errorf("%q at %d: %x", l, i, p)
			}
			for _, other := range l {
				if tree.Verify(root, other, i, len(l), p) != (other == s) {
					t.Errorf("%q at %d: %q", l, i, other)
				}
			}
		}
	}
}

// Rule R2: what is handed in is not changed, and what is answered is the caller's own.
func TestNothingIsSharedOrChanged(t *testing.T) {
	l, want := things(7), things(7)
	root := tree.Root(l)
	for i := range l {
		p := proof(t, l, i)
		was := slices.Clone(p)
		if !tree.Verify(root, l[i], i, 7, p) || !slices.Equal(p, was) {
			t.Error("Verify changed the proof")
		}
		clear(p[:cap(p)])
		if again := proof(t, l, i); !slices.Equal(again, was) {
			t.Errorf("at %d the proof is another one now", i)
		}
	}
	if !slices.Equal(l, want) || tree.Root(l) != root {
		t.Error("the list is changed")
	}
}

// Rule R2: things behind the end of a list that was handed in stay as they are.
func TestThingsBehindTheListStay(t *testing.T) {
	all := things(9)
	for n := range all {
		part := all[:n]
		tree.Root(part)
		for i := range part {
			proof(t, part, i)
		}
	}
	if !slices.Equal(all, things(9)) {
		t.Errorf("%q", all)
	}
}
