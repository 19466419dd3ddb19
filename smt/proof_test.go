package smt_test

import (
	"maps"
	"math/rand"
	"slices"
	"strconv"
	"strings"
	"testing"

	"muniment/api"
	"muniment/smt"
)

// refuse holds that a proof shows nothing.
func refuse(t *testing.T, why, root, key, value string, has bool, p api.Proof) {
	t.Helper()
	if smt.Verify(root, key, value, has, p) {
		t.Errorf("%s: taken for %q, %q, %t: %#v", why, key, value, has, p)
	}
}

// take holds that a proof shows what it should.
func take(t *testing.T, why, root, key, value string, has bool, p api.Proof) {
	t.Helper()
	if !smt.Verify(root, key, value, has, p) {
		t.Errorf("%s: refused for %q, %q, %t: %#v", why, key, value, has, p)
	}
}

// beside is a proof with other digests beside.
func beside(p api.Proof, digests ...string) api.Proof {
	p.Beside = digests
	return p
}

// turned is a text with one bit turned.
func turned(s string, bit int) string {
	b := []byte(s)
	b[bit/8] ^= 0x80 >> (bit % 8)
	return string(b)
}

// digests is so many digests of chance.
func digests(n int, rnd *rand.Rand) []string {
	out := make([]string, n)
	for i := range out {
		b := make([]byte, 32)
		rnd.Read(b)
		out[i] = string(b)
	}
	return out
}

// Promise 7.2: the proof of a key that is there: its own leaf, and the digests beside, the root's first.
func TestProveOfWhatIsThere(t *testing.T) {
	a, b := keysThatPart(t, 2)
	has := map[string]string{a: "1", b: "2"}
	x := treeOf(t, has)
	leafB := plain('L', plain('P', b), plain('V', "2"))
	p := x.Prove(a)
	if want := []string{noughts, noughts, leafB}; !slices.Equal(p.Beside, want) || !p.Has || p.Leaf != (api.Leaf{Path: plain('P', a), Value: plain('V', "1")}) {
		t.Errorf("%#v", p)
	}
	take(t, "its own", x.Root(), a, "1", true, p)
	refuse(t, "has none", x.Root(), a, "", false, p)
	refuse(t, "has none, with the value beside", x.Root(), a, "1", false, p)
	refuse(t, "has none, with another value beside", x.Root(), a, "x", false, p)
}

// Promise 7.2: the proof of a key on whose way nothing stands: no leaf, and the digests down to there.
func TestProveOfAnEmptyHalf(t *testing.T) {
	a, b := keysThatPart(t, 5)
	x := treeOf(t, map[string]string{a: "1", b: "2"})
	for depth := range 5 {
		key := keyThatParts(t, a, depth)
		p := x.Prove(key)
		if len(p.Beside) != depth+1 || p.Has || p.Leaf != (api.Leaf{}) {
			t.Errorf("parts at %d: %#v", depth, p)
		}
		take(t, "nothing", x.Root(), key, "", false, p)
		refuse(t, "something", x.Root(), key, "", true, p)
		refuse(t, "something", x.Root(), key, "1", true, p)
	}
}

// keyThatParts is a key whose path has just so many bits in common with that of another key.
func keyThatParts(t *testing.T, other string, depth int) string {
	t.Helper()
	want := bitsOf(plain('P', other))
	for i := range 1 << 20 {
		key := "parts " + strconv.Itoa(i)
		if got := bitsOf(plain('P', key)[:4]); got[:depth] == want[:depth] && got[depth] != want[depth] {
			return key
		}
	}
	t.Fatalf("no key parts from %q at %d", other, depth)
	return ""
}

// Promise 7.2: the proof of a key on whose way another leaf stands: that leaf.
func TestProveOfAnotherLeaf(t *testing.T) {
	a, b := keysThatPart(t, 3)
	x := treeOf(t, map[string]string{a: "1", b: "2"})
	for depth := 4; depth < 12; depth++ {
		key := keyThatParts(t, a, depth)
		p := x.Prove(key)
		if len(p.Beside) != 4 || !p.Has || p.Leaf != (api.Leaf{Path: plain('P', a), Value: plain('V', "1")}) {
			t.Errorf("parts at %d: %#v", depth, p)
		}
		take(t, "another leaf", x.Root(), key, "", false, p)
		take(t, "another leaf, and the key's own proof", x.Root(), a, "1", true, p)
		refuse(t, "something", x.Root(), key, "1", true, p)
		refuse(t, "something", x.Root(), key, "", true, p)
	}
	one := treeOf(t, map[string]string{a: "1"})
	take(t, "one leaf alone", one.Root(), b, "", false, one.Prove(b))
	if p := one.Prove(b); len(p.Beside) != 0 || !p.Has {
		t.Errorf("one leaf alone: %#v", p)
	}
}

// Promise 7.2: another root, key, value, or has: refused.
func TestVerifyOfSomethingElse(t *testing.T) {
	for _, n := range []int{1, 2, 3, 12} {
		has := many(n)
		x := treeOf(t, has)
		root := x.Root()
		keys := append(slices.Sorted(maps.Keys(has)), "nobody's", "no one's", "")
		for _, key := range keys {
			value, is := has[key]
			p := x.Prove(key)
			take(t, "as it is", root, key, value, is, p)
			refuse(t, "another has", root, key, value, !is, p)
			for _, r := range []string{"", noughts, root[:31], root + "\x00", plain('J', root, noughts), treeOf(t, map[string]string{"z": ""}).Root()} {
				refuse(t, "another root", r, key, value, is, p)
			}
			for bit := range 256 {
				refuse(t, "a bit of the root", turned(root, bit), key, value, is, p)
			}
			for _, other := range []string{"", "another", value + "x", smt.Value(value)} {
				if is {
					refuse(t, "another value", root, key, other, true, p)
				}
				refuse(t, "another value, and another has", root, key, other, !is, p)
			}
			for _, other := range keys {
				if other != key {
					refuse(t, "another key", root, other, value, true, p)
				}
				if _, there := has[other]; there {
					refuse(t, "another key that is there", root, other, "", false, p)
				}
			}
		}
	}
}

// Promise 7.2: a digest too many, too few, another one, or others in their places: refused.
func TestVerifyOfOtherDigestsBeside(t *testing.T) {
	has := many(12)
	x := treeOf(t, has)
	root := x.Root()
	for _, key := range append(slices.Sorted(maps.Keys(has)), "nobody's", "no one's") {
		value, is := has[key]
		p := x.Prove(key)
		refuse(t, "none", root, key, value, is, beside(p))
		for k := range p.Beside {
			refuse(t, "the last gone", root, key, value, is, beside(p, p.Beside[:k]...))
			refuse(t, "the first gone", root, key, value, is, beside(p, p.Beside[k+1:]...))
			refuse(t, "one gone", root, key, value, is, beside(p, slices.Delete(slices.Clone(p.Beside), k, k+1)...))
			refuse(t, "one twice", root, key, value, is, beside(p, slices.Insert(slices.Clone(p.Beside), k, p.Beside[k])...))
			for bit := range 256 {
				q := slices.Clone(p.Beside)
				q[k] = turned(q[k], bit)
				refuse(t, "a bit of one", root, key, value, is, beside(p, q...))
			}
		}
		for _, more := range []string{noughts, root, "", smt.LeafHash(p.Leaf)} {
			refuse(t, "one more behind", root, key, value, is, beside(p, append(slices.Clone(p.Beside), more)...))
			refuse(t, "one more ahead", root, key, value, is, beside(p, append([]string{more}, p.Beside...)...))
		}
		if q := slices.Clone(p.Beside); len(q) > 1 {
			slices.Reverse(q)
			refuse(t, "the lowest first", root, key, value, is, beside(p, q...))
		}
	}
}

// Promise 7.2: another leaf, or none, in the leaf's place: refused, under the tree's root.
func TestVerifyOfAnotherLeaf(t *testing.T) {
	has := many(12)
	x := treeOf(t, has)
	root := x.Root()
	for _, key := range append(slices.Sorted(maps.Keys(has)), "nobody's", "no one's") {
		value := has[key]
		p := x.Prove(key)
		for _, leaf := range append(plainLeaves(has), api.Leaf{}, api.Leaf{Path: p.Leaf.Value, Value: p.Leaf.Path}, api.Leaf{Path: plain('P', key), Value: plain('V', "x")}) {
			q := p
			q.Leaf, q.Has = leaf, true
			if leaf == p.Leaf && p.Has {
				continue
			}
			for _, v := range []string{value, "x", ""} {
				refuse(t, "another leaf, there", root, key, v, true, q)
				refuse(t, "another leaf, none", root, key, v, false, q)
			}
		}
		if p.Has {
			q := p
			q.Has = false
			refuse(t, "no leaf, there", root, key, value, true, q)
			refuse(t, "no leaf, none", root, key, value, false, q)
		}
	}
}

// Promise 7.2: at most 256 digests beside; so many are taken where they lead to the root, and one more never is.
func TestVerifyOfHowManyDigests(t *testing.T) {
	rnd := rand.New(rand.NewSource(72))
	path := plain('P', "a")
	own := api.Proof{Has: true, Leaf: api.Leaf{Path: path, Value: plain('V', "1")}}
	for _, n := range []int{0, 1, 2, 7, 8, 9, 254, 255, 256, 257, 258, 264, 512, 1000, 70000} {
		d := digests(n, rnd)
		q, none := beside(own, d...), beside(api.Proof{}, d...)
		rootQ, rootNone := leadsTo(path, q, 0), leadsTo(path, none, 0)
		if n > 256 {
			refuse(t, "too many, there", rootQ, "a", "1", true, q)
			refuse(t, "too many, none", rootNone, "a", "", false, none)
			for _, r := range []string{"", noughts, leadsTo(path, beside(own, d[:256]...), 0), leadsTo(path, beside(own, d[n-256:]...), 0)} {
				refuse(t, "too many", r, "a", "1", true, q)
			}
			continue
		}
		take(t, strconv.Itoa(n), rootQ, "a", "1", true, q)
		take(t, strconv.Itoa(n), rootNone, "a", "", false, none)
		refuse(t, "none", rootQ, "a", "1", false, q)
		refuse(t, "there", rootNone, "a", "", true, none)
	}
}

// Promise 7.2: a digest beside that has not 32 bytes is none, though it leads to the root.
func TestVerifyOfDigestsThatAreNone(t *testing.T) {
	rnd := rand.New(rand.NewSource(73))
	path := plain('P', "a")
	own := api.Proof{Has: true, Leaf: api.Leaf{Path: path, Value: plain('V', "1")}}
	for _, length := range []int{0, 1, 31, 33, 64} {
		for k := range 4 {
			d := digests(4, rnd)
			d[k] = strings.Repeat("d", length)
			q, none := beside(own, d...), beside(api.Proof{}, d...)
			refuse(t, "no digest, there", leadsTo(path, q, 0), "a", "1", true, q)
			refuse(t, "no digest, none", leadsTo(path, none, 0), "a", "", false, none)
		}
	}
	whole := beside(own, strings.Repeat("d", 32))
	take(t, "32 bytes are a digest, whatever they are", leadsTo(path, whole, 0), "a", "1", true, whole)
}

// Promise 7.2: a leaf whose path or value has not 32 bytes is none, though it leads to the root.
func TestVerifyOfALeafWithoutDigests(t *testing.T) {
	path, value := plain('P', "a"), plain('V', "1")
	for _, n := range []int{0, 1, 2} {
		for _, leaf := range []api.Leaf{
			{}, {Path: "", Value: value}, {Path: path}, {Path: path, Value: "1"}, {Path: "a", Value: value},
			{Path: path[:31], Value: value}, {Path: path + "\x00", Value: value}, {Path: path + path, Value: value}, {Path: path[:1], Value: value},
			{Path: path, Value: value[:31]}, {Path: path, Value: value + "\x00"}, {Path: turned(path, 9), Value: value[:31]}, {Path: turned(path, 9), Value: ""},
			{Path: path[:31], Value: path[31:] + value}, {Path: path + value[:1], Value: value[1:]},
		} {
			q := api.Proof{Has: true, Leaf: leaf, Beside: slices.Repeat([]string{noughts}, n)}
			for _, has := range []bool{true, false} {
				refuse(t, "a leaf that is none", leadsTo(path, q, 0), "a", "1", has, q)
			}
		}
	}
	whole := api.Proof{Has: true, Leaf: api.Leaf{Path: turned(path, 9), Value: value}}
	take(t, "a leaf", leadsTo(path, whole, 0), "a", "", false, whole)
}

// Promise 7.2: another leaf must stand on the key's way, bit by bit, as far as there are digests; one that does not shows nothing, though it leads to the root.
func TestVerifyOfALeafBesideTheWay(t *testing.T) {
	rnd := rand.New(rand.NewSource(74))
	path := plain('P', "a")
	for bit := range 256 {
		q := api.Proof{Has: true, Leaf: api.Leaf{Path: turned(path, bit), Value: plain('V', "1")}}
		for _, n := range []int{0, 1, bit - 1, bit, bit + 1, 255, 256} {
			if n < 0 {
				continue
			}
			q.Beside = digests(n, rnd)
			root := leadsTo(path, q, 0)
			if smt.Verify(root, "a", "", false, q) != (n <= bit) {
				t.Errorf("the bit %d is another one, %d digests: %t", bit, n, n > bit)
			}
			refuse(t, "another one's leaf", root, "a", "1", true, q)
			if n > bit {
				refuse(t, "another one's way", leadsTo(q.Leaf.Path, q, 0), "a", "", false, q)
			}
		}
	}
}

// Promise 7.2: the leaf of another key that stands elsewhere in the tree shows nothing, though it does so by its own proof.
func TestVerifyOfAKeyElsewhere(t *testing.T) {
	has := many(40)
	x := treeOf(t, has)
	for key := range has {
		for other := range has {
			if other != key {
				refuse(t, "there, by another one's proof", x.Root(), key, has[key], true, x.Prove(other))
				refuse(t, "none, by another one's proof", x.Root(), key, "", false, x.Prove(other))
			}
		}
	}
}

// Promise 7.2: a key's own leaf with another value shows neither that value's absence nor the key's.
func TestVerifyOfTheOwnLeafWithAnotherValue(t *testing.T) {
	x := treeOf(t, map[string]string{"a": "1"})
	for _, value := range []string{"", "2", "1"} {
		refuse(t, "none", x.Root(), "a", value, false, x.Prove("a"))
	}
	refuse(t, "another value", x.Root(), "a", "2", true, x.Prove("a"))
	refuse(t, "an empty value", x.Root(), "a", "", true, x.Prove("a"))
	take(t, "its value", x.Root(), "a", "1", true, x.Prove("a"))
}

// Promise 7.2: a leaf that does not stand there, for Has is not said, shows nothing that the key has.
func TestVerifyOfALeafThatDoesNotStandThere(t *testing.T) {
	own := api.Leaf{Path: plain('P', "a"), Value: plain('V', "1")}
	refuse(t, "an empty tree", noughts, "a", "1", true, api.Proof{Leaf: own})
	a, b := keysThatPart(t, 5)
	x := treeOf(t, map[string]string{a: "1", b: "2"})
	key := keyThatParts(t, a, 2)
	p := x.Prove(key)
	p.Leaf = api.Leaf{Path: plain('P', key), Value: plain('V', "1")}
	refuse(t, "an empty half", x.Root(), key, "1", true, p)
	p = x.Prove(a)
	p.Has = false
	refuse(t, "its own leaf, not said", x.Root(), a, "1", true, p)
	refuse(t, "its own leaf, not said, none", x.Root(), a, "1", false, p)
}

// Promise 7.2, rule R1: any proof is taken or refused, and never for a key that has something else.
func TestVerifyOfProofsOfChance(t *testing.T) {
	rnd := rand.New(rand.NewSource(75))
	has := many(9)
	x := treeOf(t, has)
	root := x.Root()
	keys := append(slices.Sorted(maps.Keys(has)), "nobody's", "no one's", "")
	for range 20000 {
		p := x.Prove(keys[rnd.Intn(len(keys))])
		q := changed(p, x.Prove(keys[rnd.Intn(len(keys))]), rnd)
		key, is := keys[rnd.Intn(len(keys))], rnd.Intn(2) == 0
		value := has[keys[rnd.Intn(len(keys))]]
		if !smt.Verify(root, key, value, is, q) {
			continue
		}
		if v, there := has[key]; there != is || is && v != value {
			t.Errorf("%q, %q, %t: %#v", key, value, is, q)
		}
	}
}

// changed is a proof with something of another one in it.
func changed(p, other api.Proof, rnd *rand.Rand) api.Proof {
	for range rnd.Intn(3) {
		switch rnd.Intn(5) {
		case 0:
			p.Leaf = other.Leaf
		case 1:
			p.Has = !p.Has
		case 2:
			p.Beside = append(slices.Clone(p.Beside), other.Beside[rnd.Intn(len(other.Beside))])
		case 3:
			p.Beside = slices.Clone(p.Beside[:rnd.Intn(len(p.Beside)+1)])
		case 4:
			p.Leaf.Value = other.Leaf.Value
		}
	}
	return p
}

// Rule R3: digests beside may be nil or empty.
func TestVerifyWithoutDigestsBeside(t *testing.T) {
	x := treeOf(t, map[string]string{"a": "1"})
	for _, none := range [][]string{nil, {}} {
		take(t, "one key", x.Root(), "a", "1", true, beside(x.Prove("a"), none...))
		take(t, "no key", smt.Empty(), "a", "", false, api.Proof{Beside: none})
		refuse(t, "no key", smt.Empty(), "a", "", true, api.Proof{Beside: none})
		refuse(t, "no root", "", "a", "", false, api.Proof{Beside: none})
	}
}

// Rule R2: Verify changes no proof, and what Prove answered is the caller's own.
func TestProofsAreTheCallersOwn(t *testing.T) {
	has := many(20)
	x := treeOf(t, has)
	root := x.Root()
	for key, value := range has {
		p := x.Prove(key)
		was := beside(p, slices.Clone(p.Beside)...)
		take(t, "its own", root, key, value, true, p)
		if !alike(p, was) {
			t.Error("Verify changed the proof")
		}
		clear(p.Beside[:cap(p.Beside)])
		if again := x.Prove(key); !alike(again, was) {
			t.Errorf("the proof of %q is another one now", key)
		}
	}
	holds(t, "behind all proofs", x, has)
	p := x.Prove("key 1")
	was := beside(p, slices.Clone(p.Beside)...)
	for key := range has {
		x.Put(key, "another")
	}
	if !alike(p, was) {
		t.Error("what is done to the tree changes a proof")
	}
	take(t, "of the elder root", root, "key 1", has["key 1"], true, p)
	refuse(t, "of the new root", x.Root(), "key 1", has["key 1"], true, p)
}
