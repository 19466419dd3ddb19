package mac_test

import (
	"crypto/sha256"
	"encoding/binary"
	"math"
	"testing"

	"muniment/api"
	"muniment/mac"
)

// seeds is what rings are drawn from.
var seeds = []string{"", "seed", "\x00", "seed\x00", sample(64), sample(300)}

// outside is numbers that no ring has a key for.
var outside = []int{-1, -2, -16, api.MaxReplicas, api.MaxReplicas + 1, 255, 256, -256, math.MinInt, math.MaxInt}

// keyOf is a ring's key, by the document's words.
func keyOf(seed string, i int) string {
	s := binary.BigEndian.AppendUint32([]byte{'K'}, uint32(len(seed)))
	s = append(s, seed...)
	s = append(s, 0, 0, 0, 1, byte(i))
	key := sha256.Sum256(s)
	return string(key[:])
}

// ring is one that may be.
func ring(t *testing.T, seed string, n int) *mac.Ring {
	r, e := mac.NewRing(seed, n)
	if r == nil || e != api.OK {
		t.Fatalf("NewRing(%q, %d): %v, %d", seed, n, r, e)
	}
	return r
}

// Promise 2.2: a ring has the keys 0 to n - 1 of its seed, whatever n is from 0 to MaxReplicas.
func TestRing(t *testing.T) {
	for _, seed := range seeds {
		for n := range api.MaxReplicas + 1 {
			r := ring(t, seed, n)
			if r.Len() != n {
				t.Errorf("%d keys: Len %d", n, r.Len())
			}
			for i := range n {
				if key, ok := r.Key(i); !ok || key != keyOf(seed, i) {
					t.Errorf("%d keys: key %d is %x, %v", n, i, key, ok)
				}
			}
			refused(t, r, append(outside, n))
		}
	}
}

// refused holds that a ring has no keys with these numbers: none is told, nothing is tagged, no tag is right.
func refused(t *testing.T, r *mac.Ring, numbers []int) {
	t.Helper()
	for _, i := range numbers {
		if key, ok := r.Key(i); key != "" || ok {
			t.Errorf("Key(%d): %x, %v", i, key, ok)
		}
		if tag, e := r.Tag(i, "text"); tag != "" || e != api.ErrNone {
			t.Errorf("Tag(%d): %x, %d, want ErrNone", i, tag, e)
		}
		for _, tag := range []string{"", plain("", "text"), plain(keyOf("seed", i), "text"), "text"} {
			if r.Check(i, "text", tag) {
				t.Errorf("Check(%d) takes %x", i, tag)
			}
		}
	}
}

// Promise 2.2: ErrArg, and no ring, at fewer keys than none and at more than MaxReplicas.
func TestRingOfAWrongNumber(t *testing.T) {
	for _, n := range []int{-1, -2, -17, api.MaxReplicas + 1, api.MaxReplicas + 2, 256, math.MinInt, math.MaxInt} {
		if r, e := mac.NewRing("seed", n); r != nil || e != api.ErrArg {
			t.Errorf("%d keys: %v, %d, want ErrArg", n, r, e)
		}
	}
}

// Promise 2.2: a nil ring has no keys; nor has one that NewRing did not make.
func TestRingOfNoKeys(t *testing.T) {
	for _, r := range []*mac.Ring{nil, {}, ring(t, "seed", 0)} {
		if r.Len() != 0 {
			t.Errorf("Len %d", r.Len())
		}
		refused(t, r, append(outside, 0, 1, 2))
	}
}

// Promise 2.2: a ring's tags are those under its keys.
func TestRingTag(t *testing.T) {
	r := ring(t, "seed", api.MaxReplicas)
	for i := range r.Len() {
		for _, s := range []string{"", "x", "text", sample(200)} {
			want := plain(keyOf("seed", i), s)
			if tag, e := r.Tag(i, s); tag != want || e != api.OK {
				t.Errorf("Tag(%d, %q): %x, %d, want %x", i, s, tag, e, want)
			}
		}
	}
}

// Promise 2.2: a ring's Check takes the tag under the key with that number alone.
func TestRingCheck(t *testing.T) {
	r := ring(t, "seed", api.MaxReplicas)
	for i := range r.Len() {
		tag := plain(keyOf("seed", i), "text")
		for j := range r.Len() {
			if got := r.Check(j, "text", tag); got != (i == j) {
				t.Errorf("the tag under key %d, checked under key %d: %v", i, j, got)
			}
		}
		for _, wrong := range []string{"", tag[:31], tag + "\x00", turned(tag, 0, 7), turned(tag, 31, 0), plain(keyOf("other", i), "text"), plain("", "text")} {
			if r.Check(i, "text", wrong) {
				t.Errorf("key %d takes %x", i, wrong)
			}
		}
		if r.Check(i, "tex", tag) || r.Check(i, "text ", tag) || r.Check(i, "", tag) {
			t.Errorf("key %d takes the tag of another text", i)
		}
	}
}

// Promise 2.2: keys of unlike numbers and of unlike seeds are unlike.
func TestRingKeysAreApart(t *testing.T) {
	seen := map[string]bool{}
	for _, seed := range seeds {
		r := ring(t, seed, api.MaxReplicas)
		for i := range r.Len() {
			key, _ := r.Key(i)
			if seen[key] {
				t.Errorf("key %d of the seed %q is another one's", i, seed)
			}
			seen[key] = true
		}
	}
}

// Rule R4: rings of one seed have the same keys, however many they have.
func TestRingsOfOneSeed(t *testing.T) {
	small, great := ring(t, "seed", 3), ring(t, "seed", 16)
	for i := range small.Len() {
		a, _ := small.Key(i)
		b, _ := great.Key(i)
		if a != b {
			t.Errorf("key %d: %x and %x", i, a, b)
		}
	}
}
