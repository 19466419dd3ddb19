package tree_test

import (
	"math"
	"math/rand"
	"slices"
	"strings"
	"testing"

	"muniment/tree"
)

// same holds that Verify answers as the RFC's own way does.
func same(t *testing.T, root, s string, i, n int, p []string) bool {
	t.Helper()
	got := tree.Verify(root, s, i, n, p)
	if want := plainVerify(root, s, i, n, p); got != want {
		t.Errorf("%q at %d of %d, with %d digests: %t", s, i, n, len(p), got)
	}
	return got
}

// refuse holds that a proof is none.
func refuse(t *testing.T, why, root, s string, i, n int, p []string) {
	t.Helper()
	if same(t, root, s, i, n, p) {
		t.Errorf("%s: taken at %d of %d", why, i, n)
	}
}

// Promise 6.1: another thing, another root, another place: refused.
func TestVerifyOfSomethingElse(t *testing.T) {
	for n := 1; n < 20; n++ {
		l := things(n)
		root := tree.Root(l)
		for i, s := range l {
			p := proof(t, l, i)
			refuse(t, "another thing", root, s+"x", i, n, p)
			refuse(t, "an empty thing", root, "", i, n, p)
			refuse(t, "the leaf's digest as the thing", root, tree.Leaf(s), i, n, p)
			refuse(t, "another root", tree.Root(append(things(n), "x")), s, i, n, p)
			refuse(t, "no root", "", s, i, n, p)
			refuse(t, "a root that is cut", root[:31], s, i, n, p)
			refuse(t, "a root that goes on", root+"\x00", s, i, n, p)
			for k := range n {
				if same(t, root, s, k, n, p) != (k == i) {
					t.Errorf("the proof of %d of %d, taken at %d", i, n, k)
				}
			}
		}
	}
}

// Promise 6.1: each bit of a root and of a proof's digests counts.
func TestVerifyOfEachBit(t *testing.T) {
	l := things(6)
	root := tree.Root(l)
	for i, s := range l {
		p := proof(t, l, i)
		for bit := range 256 {
			refuse(t, "a bit of the root", turned(root, bit), s, i, 6, p)
			for k := range p {
				q := slices.Clone(p)
				q[k] = turned(q[k], bit)
				refuse(t, "a bit of the proof", root, s, i, 6, q)
			}
		}
	}
}

// turned is a text with one bit turned.
func turned(s string, bit int) string {
	b := []byte(s)
	b[bit/8] ^= 1 << (bit % 8)
	return string(b)
}

// Promise 6.1: a proof that is too short, or too long, or in another order: refused.
func TestVerifyOfAnotherProof(t *testing.T) {
	for n := 1; n < 20; n++ {
		l := things(n)
		root := tree.Root(l)
		for i, s := range l {
			p := proof(t, l, i)
			for k := range p {
				refuse(t, "too short", root, s, i, n, p[:k])
				refuse(t, "the first ones gone", root, s, i, n, p[k+1:])
			}
			for _, more := range []string{root, "", strings.Repeat("\x00", 32), tree.Leaf(s)} {
				refuse(t, "too long", root, s, i, n, append(slices.Clone(p), more))
				refuse(t, "one ahead", root, s, i, n, append([]string{more}, p...))
			}
			if q := slices.Clone(p); len(q) > 1 {
				slices.Reverse(q)
				refuse(t, "the highest first", root, s, i, n, q)
			}
		}
	}
}

// Promise 6.1: digests that have not 32 bytes are none, though the bytes of all of them are the same ones.
func TestVerifyOfDigestsThatAreNone(t *testing.T) {
	l := things(8)
	root := tree.Root(l)
	for i, s := range l {
		p := proof(t, l, i)
		for k := range p {
			for _, d := range []string{"", p[k][:31], p[k] + "\x00", p[k] + p[k], "\x00" + p[k]} {
				q := slices.Clone(p)
				q[k] = d
				refuse(t, "no digest", root, s, i, 8, q)
			}
		}
	}
}

// Promise 6.1: bytes moved from one half to the other digest to the same root; their lengths tell that they are no digests.
func TestVerifyOfARootWithoutDigests(t *testing.T) {
	up := tree.Leaf("a")
	for _, n := range []int{0, 1, 31, 33, 64} {
		odd := strings.Repeat("d", n)
		if tree.Verify(plain("\x01"+up+odd), "a", 0, 2, []string{odd}) {
			t.Errorf("taken behind, with %d bytes", n)
		}
		if tree.Verify(plain("\x01"+odd+up), "a", 1, 2, []string{odd}) {
			t.Errorf("taken ahead, with %d bytes", n)
		}
	}
	if whole := strings.Repeat("d", 32); !tree.Verify(plain("\x01"+up+whole), "a", 0, 2, []string{whole}) {
		t.Error("32 bytes are a digest, whatever they are")
	}
}

// Promise 6.1: of an empty list nothing is shown, by no root and no proof.
func TestVerifyOfAnEmptyList(t *testing.T) {
	for _, i := range []int{-1, 0, 1} {
		for _, s := range []string{"", "a"} {
			for _, root := range []string{tree.Root(nil), tree.Leaf(s), ""} {
				refuse(t, "an empty list", root, s, i, 0, nil)
				refuse(t, "an empty list", root, s, i, 0, []string{})
				refuse(t, "an empty list", root, s, i, 0, []string{root})
			}
		}
	}
}

// Promise 6.1, rule R3: a list of one has a proof without digests, nil or empty.
func TestVerifyOfOne(t *testing.T) {
	for _, s := range []string{"", "a"} {
		if !tree.Verify(tree.Leaf(s), s, 0, 1, nil) || !tree.Verify(tree.Leaf(s), s, 0, 1, []string{}) {
			t.Errorf("%q is refused", s)
		}
		refuse(t, "a digest more", tree.Leaf(s), s, 0, 1, []string{tree.Leaf(s)})
	}
}

// Promise 6.1: a place that is none of n is refused, with any proof.
func TestVerifyWithoutAPlace(t *testing.T) {
	for n := 1; n < 10; n++ {
		l := things(n)
		root := tree.Root(l)
		for i, s := range l {
			p := proof(t, l, i)
			for _, at := range []int{-1, i - n, n, n + 1, i + n, i - 16, i + 16, math.MinInt, math.MaxInt} {
				if at < 0 || at >= n {
					refuse(t, "no place", root, s, at, n, p)
				}
			}
		}
	}
}

// Promise 6.1: under another length a proof holds only where the way up is the same one.
func TestVerifyOfAnotherLength(t *testing.T) {
	for n := 1; n < 20; n++ {
		l := things(n)
		root := tree.Root(l)
		for i, s := range l {
			p := proof(t, l, i)
			for m := -2; m < 70; m++ {
				same(t, root, s, i, m, p)
			}
			refuse(t, "below the place", root, s, i, i, p)
			refuse(t, "far above", root, s, i, 1<<10, p)
		}
	}
	p := proof(t, things(5), 4)
	refuse(t, "one more", tree.Root(things(5)), "thing 4", 4, 6, p)
}

// Promise 6.1, rule R1: lengths that are nought, below nought or very large end, with any proof.
func TestVerifyOfAnyLength(t *testing.T) {
	numbers := []int{
		0, 1, 2, 3, -1, -2, 1 << 31, 1<<31 - 1, 1<<31 + 1, 1 << 62, 1<<62 - 1, 1<<62 + 1,
		math.MaxInt, math.MaxInt - 1, math.MinInt, math.MinInt + 1,
	}
	for count := range 66 {
		p := slices.Repeat([]string{strings.Repeat("d", 32)}, count)
		for _, n := range numbers {
			for _, i := range append(numbers, n-1, n/2) {
				same(t, tree.Root(nil), "a", i, n, p)
				same(t, tree.Root(nil), "a", i, n, append(p, ""))
			}
		}
	}
}

// Promise 6.1: a way up of a very large list is gone, too, and its digests stand on their sides.
func TestVerifyOfVeryLargeLists(t *testing.T) {
	rnd := rand.New(rand.NewSource(66))
	for range 500 {
		n := 1 + int(rnd.Uint64()>>(1+rnd.Intn(60)))
		if n < 1 {
			n = math.MaxInt
		}
		i := rnd.Intn(n)
		root, p := madeUp("a", i, n, rnd)
		if !same(t, root, "a", i, n, p) {
			t.Errorf("at %d of %d: refused", i, n)
		}
		refuse(t, "another thing", root, "b", i, n, p)
		if len(p) > 0 {
			refuse(t, "one short", root, "a", i, n, p[1:])
		}
		refuse(t, "one more", root, "a", i, n, append(slices.Clone(p), p...))
	}
}

// madeUp is a root and a proof of a thing at a place of so many, beside digests of chance, by the chapter's words.
func madeUp(s string, i, n int, rnd *rand.Rand) (string, []string) {
	if n == 1 {
		return plain("\x00" + s), nil
	}
	k := 1
	for k < n-k { // not 2*k < n: that might be too large a number
		k *= 2
	}
	b := make([]byte, 32)
	rnd.Read(b)
	beside := string(b)
	if i < k {
		up, p := madeUp(s, i, k, rnd)
		return plain("\x01" + up + beside), append(p, beside)
	}
	up, p := madeUp(s, i-k, n-k, rnd)
	return plain("\x01" + beside + up), append(p, beside)
}
