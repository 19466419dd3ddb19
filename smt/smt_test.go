package smt_test

import (
	"encoding/hex"
	"maps"
	"math/rand"
	"slices"
	"strconv"
	"strings"
	"testing"

	"muniment/api"
	"muniment/smt"
)

// Promise 7.1: the digests of keys, values, leaves and halves, each for its purpose.
func TestDigests(t *testing.T) {
	for n := range 150 {
		a, b := strings.Repeat("a\x00\xff", n), strings.Repeat("\x01b", n)
		for _, c := range []struct{ name, got, want string }{
			{"Path", smt.Path(a), plain('P', a)},
			{"Value", smt.Value(a), plain('V', a)},
			{"LeafHash", smt.LeafHash(api.Leaf{Path: a, Value: b}), plain('L', a, b)},
			{"Join", smt.Join(a, b), plain('J', a, b)},
		} {
			if c.got != c.want || len(c.got) != api.HashBytes {
				t.Errorf("%s of %d bytes: %x, want %x", c.name, n, c.got, c.want)
			}
		}
	}
}

// Promise 7.1: the digests of known texts, worked out by other means than Go's.
func TestDigestsOfKnownTexts(t *testing.T) {
	path, value := smt.Path("a"), smt.Value("1")
	for _, c := range []struct{ name, got, want string }{
		{"Path", path, "2a765643dc0138ca08d927b8abc1591521d1e39a329eb6c5f917eb64b131135d"},
		{"Value", value, "4a1b4dd0d5e00d27ea862f5eb28bbf100d44a018311adddf2c78fdbc772ff996"},
		{"LeafHash", smt.LeafHash(api.Leaf{Path: path, Value: value}), "21d6239e43c886af4e6e2864e7a1efea5eb2e8b450053f5fb5155e1b64a72e37"},
		{"Join", smt.Join(path, value), "8d190ec3f0396816e33929c964a2e92198fbfdd728bc68a622d46a24541d6584"},
	} {
		if got := hex.EncodeToString([]byte(c.got)); got != c.want {
			t.Errorf("%s: %s, want %s", c.name, got, c.want)
		}
	}
}

// Promise 7.1: the purposes tell the digests of the same parts apart, and the parts' order counts.
func TestPurposesAreApart(t *testing.T) {
	seen := map[string]string{}
	for name, digest := range map[string]string{
		"a path": smt.Path("a"), "a value": smt.Value("a"),
		"a leaf": smt.LeafHash(api.Leaf{Path: "a", Value: "b"}), "halves": smt.Join("a", "b"),
		"a leaf, the other way round": smt.LeafHash(api.Leaf{Path: "b", Value: "a"}), "halves, the other way round": smt.Join("b", "a"),
		"a leaf, cut elsewhere": smt.LeafHash(api.Leaf{Path: "ab"}), "halves, cut elsewhere": smt.Join("ab", ""),
		"nothing": smt.Empty(),
	} {
		if other, is := seen[digest]; is {
			t.Errorf("%s and %s have one digest", name, other)
		}
		seen[digest] = name
	}
}

// Promise 7.1: a half without leaves has 32 noughts; so has a tree without keys.
func TestEmpty(t *testing.T) {
	if smt.Empty() != noughts {
		t.Errorf("Empty: %x", smt.Empty())
	}
	for why, x := range map[string]*smt.Tree{"a new tree": smt.New(), "a zero tree": {}, "a clone": smt.New().Clone()} {
		holds(t, why, x, nil)
		if x.Root() != noughts || x.Len() != 0 || x.Delete("a") {
			t.Errorf("%s: %x, %d", why, x.Root(), x.Len())
		}
		if p := x.Prove("a"); !alike(p, api.Proof{}) {
			t.Errorf("%s: the proof %#v", why, p)
		}
	}
}

// Promise 7.1, the chapter's example: of one key the root is its leaf's digest, and the proof has nothing beside.
func TestExample(t *testing.T) {
	for _, key := range []string{"a", "", "\x00", strings.Repeat("long ", 1000)} {
		for _, value := range []string{"1", "", strings.Repeat("\xff", 1000)} {
			has := map[string]string{key: value}
			x := treeOf(t, has)
			holds(t, "one key", x, has)
			leaf := api.Leaf{Path: smt.Path(key), Value: smt.Value(value)}
			if x.Root() != smt.LeafHash(leaf) {
				t.Errorf("%.10q: the root %x", key, x.Root())
			}
			if p := x.Prove(key); len(p.Beside) != 0 || !p.Has || p.Leaf != leaf {
				t.Errorf("%.10q: the proof %#v", key, p)
			}
		}
	}
}

// Promise 7.1: two keys whose paths part at the first bit, later, and late: as many joins above them, with nothing in the other halves.
func TestTwoKeys(t *testing.T) {
	for depth := range 31 {
		a, b := keysThatPart(t, depth)
		if isRight(plain('P', a), depth) {
			a, b = b, a
		}
		has := map[string]string{a: "of a", b: "of b"}
		x := treeOf(t, has)
		holds(t, "part at "+strconv.Itoa(depth), x, has)
		root := plain('J', plain('L', plain('P', a), plain('V', "of a")), plain('L', plain('P', b), plain('V', "of b")))
		for d := depth - 1; d >= 0; d-- {
			if isRight(plain('P', a), d) {
				root = plain('J', noughts, root)
			} else {
				root = plain('J', root, noughts)
			}
		}
		if x.Root() != root {
			t.Errorf("%q and %q part at %d: %x, want %x", a, b, depth, x.Root(), root)
		}
		if n := len(x.Prove(a).Beside); n != depth+1 {
			t.Errorf("%q and %q part at %d: %d digests beside", a, b, depth, n)
		}
	}
}

// Promise 7.1: when one of two keys goes, the other one is the root again, however late they part.
func TestOneOfTwoKeysGoes(t *testing.T) {
	for depth := range 31 {
		a, b := keysThatPart(t, depth)
		for _, gone := range []string{a, b} {
			has := map[string]string{a: "1", b: "2"}
			x := treeOf(t, has)
			if !x.Delete(gone) {
				t.Errorf("%q is not there", gone)
			}
			delete(has, gone)
			holds(t, "one is gone", x, has)
			if x.Delete(gone) {
				t.Errorf("%q is there again", gone)
			}
		}
	}
}

// Promise 7.1: trees of many keys.
func TestManyKeys(t *testing.T) {
	for _, n := range []int{2, 3, 4, 5, 10, 50, 300} {
		holds(t, strconv.Itoa(n), treeOf(t, many(n)), many(n))
	}
}

// Promise 7.1: a key that is put again has the last value, and counts once; the same value changes nothing.
func TestPutAgain(t *testing.T) {
	for _, n := range []int{1, 2, 3, 40} {
		has := many(n)
		x := treeOf(t, has)
		for key := range many(n) {
			was := x.Root()
			if e := x.Put(key, has[key]); e != api.OK || x.Root() != was {
				t.Errorf("%q with the same value: %d, %x, want %x", key, e, x.Root(), was)
			}
			has[key] = "another"
			if e := x.Put(key, "another"); e != api.OK || x.Root() == was {
				t.Errorf("%q with another value: %d, %x", key, e, x.Root())
			}
			holds(t, "put again", x, has)
		}
	}
}

// Promise 7.1: Delete takes a key away, and tells whether it was there; one that was not changes nothing.
func TestDelete(t *testing.T) {
	for _, n := range []int{1, 2, 3, 40} {
		has := many(n)
		x := treeOf(t, has)
		for _, key := range slices.Sorted(maps.Keys(has)) {
			if x.Delete("nobody's") || x.Delete("") || x.Delete(smt.Path(key)) {
				t.Error("a key that was not there was taken away")
			}
			holds(t, "nothing is taken away", x, has)
			if !x.Delete(key) {
				t.Errorf("%q was not there", key)
			}
			delete(has, key)
			holds(t, "one is taken away", x, has)
			if got, is := x.Get(key); is || got != "" || x.Delete(key) {
				t.Errorf("%q is still there: %x, %t", key, got, is)
			}
		}
		if x.Root() != noughts || x.Len() != 0 {
			t.Errorf("all are taken away: %x, %d", x.Root(), x.Len())
		}
	}
}

// Promise 7.1: a key is not there where another leaf stands on its way, for Get and for Delete.
func TestAnotherLeafOnTheWay(t *testing.T) {
	for depth := range 31 {
		a, b := keysThatPart(t, depth)
		has := map[string]string{a: "1"}
		x := treeOf(t, has)
		if got, is := x.Get(b); is || got != "" || x.Delete(b) {
			t.Errorf("%q has what %q has: %x, %t", b, a, got, is)
		}
		holds(t, "another leaf", x, has)
	}
}

// Promise 7.1: All tells the leaves by their paths, rising, and a loop over them may stop early and begin anew.
func TestAll(t *testing.T) {
	want := plainLeaves(many(60))
	all := treeOf(t, many(60)).All()
	for stop := range 62 {
		var got []api.Leaf
		for leaf := range all {
			if got = append(got, leaf); len(got) >= stop {
				break
			}
		}
		if end := min(max(stop, 1), 60); !slices.Equal(got, want[:end]) {
			t.Errorf("stopped at %d: %d leaves, or other ones", stop, len(got))
		}
	}
}

// Promise 7.1, rule R2: what All answered stays, whatever is done to the tree, in the loop, too.
func TestAllStays(t *testing.T) {
	has := many(30)
	x := treeOf(t, has)
	all := x.All()
	x.Put("more", "1")
	for key := range has {
		x.Delete(key)
	}
	if got := slices.Collect(all); !slices.Equal(got, plainLeaves(has)) {
		t.Errorf("%d leaves now", len(got))
	}
	n := 0
	for range x.All() {
		n++
		x.Put("in the loop "+strconv.Itoa(n), "")
		x.Delete("more")
	}
	holds(t, "changed in the loop", x, map[string]string{"in the loop 1": ""})
	if n != 1 {
		t.Errorf("%d times", n)
	}
}

// Promise 7.1: what is done to a clone changes nothing of its elder, and the other way round.
func TestClone(t *testing.T) {
	for _, n := range []int{0, 1, 2, 3, 40} {
		hasX, hasY := many(n), many(n)
		x := treeOf(t, hasX)
		y := x.Clone()
		holds(t, "a clone", y, hasY)
		y.Put("clone's", "1")
		hasY["clone's"] = "1"
		x.Put("elder's", "2")
		hasX["elder's"] = "2"
		for i := range n {
			key := "key " + strconv.Itoa(i)
			switch i % 4 {
			case 0:
				y.Delete(key)
				delete(hasY, key)
			case 1:
				x.Delete(key)
				delete(hasX, key)
			case 2:
				y.Put(key, "clone's")
				hasY[key] = "clone's"
			case 3:
				x.Put(key, "elder's")
				hasX[key] = "elder's"
			}
			holds(t, "the elder", x, hasX)
			holds(t, "the clone", y, hasY)
		}
	}
}

// Promises 7.1 and 7.2: a nil tree has the empty root, and nothing.
func TestNilTree(t *testing.T) {
	var x *smt.Tree
	if x.Root() != noughts || x.Len() != 0 || x.Delete("a") || x.Clone() != nil {
		t.Errorf("%x, %d", x.Root(), x.Len())
	}
	if e := x.Put("a", "1"); e != api.ErrArg {
		t.Errorf("Put: %d", e)
	}
	if got, is := x.Get("a"); is || got != "" {
		t.Errorf("Get: %x, %t", got, is)
	}
	for leaf := range x.All() {
		t.Errorf("All: %x", leaf)
	}
	p := x.Prove("a")
	if !alike(p, api.Proof{}) || !smt.Verify(x.Root(), "a", "", false, p) {
		t.Errorf("Prove: %#v", p)
	}
}

// Promises 7.1 and 7.3, rule R4: whatever is done, in whatever order, the tree is that of the keys and values that are left.
func TestAnyOrder(t *testing.T) {
	for seed := range int64(30) {
		rnd := rand.New(rand.NewSource(seed))
		x, has := smt.New(), map[string]string{}
		for range 200 {
			key := strconv.Itoa(rnd.Intn(1 + int(seed)*2))
			if _, is := has[key]; rnd.Intn(2) == 0 {
				if x.Delete(key) != is {
					t.Errorf("Delete of %q: %t", key, !is)
				}
				delete(has, key)
				continue
			}
			has[key] = strconv.Itoa(rnd.Intn(3))
			x.Put(key, has[key])
		}
		holds(t, "the seed "+strconv.Itoa(int(seed)), x, has)
	}
}

// Promise 7.3: the same keys and values, put in any order and with others that go again, come to the same root.
func TestRootHangsOnKeysAndValuesAlone(t *testing.T) {
	has := many(25)
	want, rnd := treeOf(t, has).Root(), rand.New(rand.NewSource(7))
	keys := slices.Sorted(maps.Keys(has))
	for range 50 {
		rnd.Shuffle(len(keys), func(i, j int) { keys[i], keys[j] = keys[j], keys[i] })
		x := smt.New()
		for i, key := range keys {
			x.Put("for a while "+strconv.Itoa(i), "x")
			x.Put(keys[rnd.Intn(i+1)], "not yet")
			x.Put(key, "not yet")
		}
		for i, key := range keys {
			x.Delete("for a while " + strconv.Itoa(i))
			if i%3 == 0 {
				x.Delete(key)
			}
			x.Put(key, has[key])
		}
		if x.Root() != want || x.Len() != len(has) {
			t.Errorf("%x, %d, want %x, %d", x.Root(), x.Len(), want, len(has))
		}
	}
}

// Promise 7.3: unlike keys or values come to unlike roots.
func TestRootTellsTreesApart(t *testing.T) {
	seen := map[string]string{}
	for name, has := range map[string]map[string]string{
		"none": nil, "a": {"a": ""}, "a with 1": {"a": "1"}, "1 with a": {"1": "a"}, "b with 1": {"b": "1"},
		"both": {"a": "1", "b": "1"}, "both, changed over": {"a": "1", "b": "2"}, "the other way round": {"a": "2", "b": "1"},
		"ab": {"ab": "1"}, "an empty key": {"": "1"}, "empty both": {"": ""},
	} {
		root := treeOf(t, has).Root()
		if other, is := seen[root]; is {
			t.Errorf("%s and %s have one root", name, other)
		}
		seen[root] = name
	}
}
