package state_test

import (
	"crypto/sha256"
	"encoding/binary"
	"maps"
	"math"
	"slices"
	"strings"
	"testing"

	"muniment/api"
	"muniment/state"
)

// put, del, check and none are operations.
func put(key, value string) api.Op   { return api.Op{Kind: api.OpPut, Key: key, Value: value} }
func del(key string) api.Op          { return api.Op{Kind: api.OpDel, Key: key} }
func check(key, value string) api.Op { return api.Op{Kind: api.OpCheck, Key: key, Value: value} }
func none(key string) api.Op         { return api.Op{Kind: api.OpNone, Key: key} }

// of is a transaction.
func of(client, nonce uint64, ops ...api.Op) api.Tx {
	return api.Tx{Client: client, Nonce: nonce, Ops: ops}
}

// sample is so many bytes, letters and others.
func sample(n int) string { return strings.Repeat("\x00\x81\xffmuniment", n/11+1)[:n] }

// plain8 is a number's 8 bytes by the library.
func plain8(n uint64) string { return string(binary.BigEndian.AppendUint64(nil, n)) }

// plainCount is a count's bytes by the library.
func plainCount(n int) string { return string(binary.BigEndian.AppendUint32(nil, uint32(n))) }

// plainText is a text's bytes by the library.
func plainText(s string) string { return plainCount(len(s)) + s }

// plainID is a transaction's digest by the library.
func plainID(x api.Tx) string {
	all := plain8(x.Client) + plain8(x.Nonce) + plainCount(len(x.Ops))
	for _, o := range x.Ops {
		all += string([]byte{byte(o.Kind)}) + plainText(o.Key) + plainText(o.Value)
	}
	sum := sha256.Sum256([]byte("T" + plainText(all)))
	return string(sum[:])
}

// done does transactions that can be done.
func done(t *testing.T, s *state.State, l ...api.Tx) *state.State {
	t.Helper()
	for _, x := range l {
		if _, e := s.Apply(x); e != api.OK {
			t.Fatalf("%#v: %d", x, e)
		}
	}
	return s
}

// some is a state with keys and clients.
func some(t *testing.T) *state.State {
	t.Helper()
	return done(t, state.New(),
		of(7, 1, put("b", "2"), put("a", "1"), put("\xff", "high"), put("\x00", "low")),
		of(300, 1, put("ab", ""), put(sample(api.MaxKey), sample(api.MaxValue))),
		of(7, 2, del("b"), put("c", "3")),
		of(0, 1, check("a", "1")),
		of(math.MaxUint64, 1, none("b")))
}

// pair is a text and what it has.
type pair struct{ text, value string }

// pairs is what a state's All goes over.
func pairs(s *state.State) []pair {
	var out []pair
	for text, value := range s.All() {
		out = append(out, pair{text, value})
	}
	return out
}

// holds holds that a state has just these texts, by every way to ask it.
func holds(t *testing.T, s *state.State, want map[string]string) {
	t.Helper()
	var all []pair
	for _, text := range slices.Sorted(maps.Keys(want)) {
		all = append(all, pair{text, want[text]})
		if v, is := s.Value(text); v != want[text] || !is {
			t.Errorf("%q has %q, %t, want %q", text, v, is, want[text])
		}
	}
	if got := pairs(s); !slices.Equal(got, all) || s.Len() != len(all) {
		t.Errorf("%d: %q, want %d: %q", s.Len(), got, len(all), all)
	}
}

// Promise 5.1: the texts that stand for keys and clients.
func TestKeyOfAndNonceOf(t *testing.T) {
	for _, key := range []string{"", "a", "ab", "k", "n", "\x00", "\xff\xfe", sample(api.MaxKey), sample(1000)} {
		if got := state.KeyOf(key); got != "k"+key {
			t.Errorf("KeyOf(%q): %q", key, got)
		}
	}
	if got := state.NonceOf(0x0102030405060708); got != "n\x01\x02\x03\x04\x05\x06\x07\x08" {
		t.Errorf("%q", got)
	}
	for _, client := range []uint64{0, 1, 255, 256, 1 << 32, 1 << 63, math.MaxUint64} {
		if got := state.NonceOf(client); got != "n"+plain8(client) {
			t.Errorf("NonceOf(%d): %q", client, got)
		}
	}
}

// Promise 5.1: a new state has nothing; so has one that New did not make.
func TestNew(t *testing.T) {
	for _, s := range []*state.State{state.New(), {}, state.New().Clone(), (&state.State{}).Clone()} {
		holds(t, s, nil)
		if v, is := s.Get("a"); v != "" || is {
			t.Errorf("%q, %t", v, is)
		}
		if n, id := s.Last(1); n != 0 || id != "" {
			t.Errorf("%d, %q", n, id)
		}
		if !state.Same(s, state.New()) || !state.Same(state.New(), s) {
			t.Error("empty states are not the same")
		}
		done(t, s, of(1, 1, put("a", "1")))
		if v, is := s.Get("a"); v != "1" || !is {
			t.Errorf("%q, %t", v, is)
		}
	}
	if s, other := state.New(), state.New(); s == other {
		t.Error("two new states are one")
	}
}

// Promise 5.1: a key's value, and none of a key that has none.
func TestGet(t *testing.T) {
	s := some(t)
	want := map[string]string{"a": "1", "c": "3", "\xff": "high", "\x00": "low", "ab": "", sample(api.MaxKey): sample(api.MaxValue)}
	for key, value := range want {
		if v, is := s.Get(key); v != value || !is {
			t.Errorf("%q: %q, %t, want %q", key, v, is, value)
		}
	}
	for _, key := range []string{"", "b", "A", "a\x00", "abc", "ka", "k", "n", plain8(7), sample(api.MaxKey - 1), sample(api.MaxKey) + "x", sample(5000)} {
		if v, is := s.Get(key); v != "" || is {
			t.Errorf("%q: %q, %t", key, v, is)
		}
	}
}

// Promise 5.1: a client's last number and the digest of that transaction, and 0 of one that did nothing.
func TestLast(t *testing.T) {
	s := some(t)
	for _, x := range []api.Tx{of(7, 2, del("b"), put("c", "3")), of(0, 1, check("a", "1")), of(math.MaxUint64, 1, none("b"))} {
		if n, id := s.Last(x.Client); n != x.Nonce || id != plainID(x) {
			t.Errorf("client %d: %d, %x, want %d, %x", x.Client, n, id, x.Nonce, plainID(x))
		}
	}
	for _, client := range []uint64{1, 6, 8, 44, 300 + 256, 7 << 8, 1 << 63, math.MaxUint64 - 1} {
		if n, id := s.Last(client); n != 0 || id != "" {
			t.Errorf("client %d: %d, %x", client, n, id)
		}
	}
}

// Promise 5.1: what a text has, and how many there are, rising.
func TestValueLenAndAll(t *testing.T) {
	s := some(t)
	holds(t, s, map[string]string{
		"ka": "1", "kc": "3", "k\xff": "high", "k\x00": "low", "kab": "", "k" + sample(api.MaxKey): sample(api.MaxValue),
		"n" + plain8(7):              plain8(2) + plainID(of(7, 2, del("b"), put("c", "3"))),
		"n" + plain8(300):            plain8(1) + plainID(of(300, 1, put("ab", ""), put(sample(api.MaxKey), sample(api.MaxValue)))),
		"n" + plain8(0):              plain8(1) + plainID(of(0, 1, check("a", "1"))),
		"n" + plain8(math.MaxUint64): plain8(1) + plainID(of(math.MaxUint64, 1, none("b"))),
	})
	for _, text := range []string{"", "k", "n", "a", "c", "kb", "Ka", "kk", "n" + plain8(1), "k" + plain8(7), plain8(7), "n" + plain8(7) + "\x00", "n" + plain8(7)[1:]} {
		if v, is := s.Value(text); v != "" || is {
			t.Errorf("%q: %q, %t", text, v, is)
		}
	}
}

// Promise 5.1: a loop that stops early has gone over the first texts, and may begin anew.
func TestAllStopsEarly(t *testing.T) {
	s := some(t)
	all, over := pairs(s), s.All()
	for most := 1; most <= len(all); most++ {
		var got []pair
		for text, value := range over {
			got = append(got, pair{text, value})
			if len(got) == most {
				break
			}
		}
		if !slices.Equal(got, all[:most]) {
			t.Errorf("%q, want %q", got, all[:most])
		}
	}
	for text, value := range over {
		for inner, other := range over {
			if (pair{inner, other}) != all[0] {
				t.Errorf("%q has %q", inner, other)
			}
			break
		}
		if v, is := s.Value(text); v != value || !is {
			t.Errorf("%q has %q", text, value)
		}
	}
}

// Promise 5.1: what All answered is the caller's own (R2), in a loop that changes the state, too.
func TestAllIsItsOwn(t *testing.T) {
	s := some(t)
	all, over, n := pairs(s), s.All(), uint64(0)
	var got []pair
	for text, value := range over {
		got = append(got, pair{text, value})
		n++
		done(t, s, of(1000, n, put("a", sample(int(n))), put("d"+sample(int(n)), "new"), del("\xff")))
	}
	if !slices.Equal(got, all) {
		t.Errorf("%q, want %q", got, all)
	}
	if got = pairs(s); slices.Equal(got, all) || len(got) != len(all)+int(n) {
		t.Errorf("%d behind %d", len(got), len(all))
	}
}

// Promise 5.1: a clone is the same, and its own: what is done to one changes nothing of the other.
func TestClone(t *testing.T) {
	for _, s := range []*state.State{some(t), state.New()} {
		c := s.Clone()
		if c == s || !state.Same(s, c) || c.Encode() != s.Encode() {
			t.Fatal("a clone is another state")
		}
		all := pairs(s)
		done(t, c, of(5, 1, put("a", "other"), del("c"), put("e", "5")))
		if !slices.Equal(pairs(s), all) || state.Same(s, c) {
			t.Error("what is done to a clone is done to the state")
		}
		all = pairs(c)
		done(t, s, of(5, 1, put("a", "mine"), put("f", "6")), of(5, 2, del("e")))
		if !slices.Equal(pairs(c), all) || state.Same(s, c) {
			t.Error("what is done to a state is done to its clone")
		}
	}
}

// Promise 5.1: states are the same that have the same texts, whatever was done on the way.
func TestSame(t *testing.T) {
	s := some(t)
	if !state.Same(s, s) || !state.Same(s, some(t)) || !state.Same(some(t), s) {
		t.Error("like states are not the same")
	}
	a := done(t, state.New(), of(1, 1, put("a", "1")), of(2, 1, put("b", "2")))
	b := done(t, state.New(), of(2, 1, put("b", "2")), of(1, 1, put("a", "1")))
	if !state.Same(a, b) || !state.Same(b, a) {
		t.Error("the order of transactions that do not meet is seen")
	}
}

// Promise 5.1: states that differ in one thing are not the same.
func TestSameOfUnlikeOnes(t *testing.T) {
	base := []api.Tx{of(1, 1, put("a", "1"), put("b", "2"))}
	all := []*state.State{
		state.New(),
		done(t, state.New(), base...),
		done(t, state.New(), of(1, 1, put("a", "1"), put("b", "3"))),
		done(t, state.New(), of(1, 1, put("a", "1"), put("c", "2"))),
		done(t, state.New(), of(1, 1, put("a", "1"))),
		done(t, state.New(), of(1, 1, put("a", "1"), put("b", ""))),
		done(t, state.New(), of(1, 1, put("b", "2"), put("a", "1"))), // a digest of its own
		done(t, state.New(), of(2, 1, put("a", "1"), put("b", "2"))),
		done(t, state.New(), append(base, of(1, 2, check("a", "1")))...),
		done(t, state.New(), append(base, of(2, 1, check("a", "1")))...),
		nil,
	}
	for i, a := range all {
		for j, b := range all {
			if state.Same(a, b) != (i == j) {
				t.Errorf("states %d and %d: %t", i, j, i != j)
			}
		}
	}
}

// Promises 5.1 to 5.3: a nil state answers zero values in every call; two are the same; its bytes are an empty one's.
func TestNil(t *testing.T) {
	var s *state.State
	holds(t, s, nil)
	for _, key := range []string{"", "a"} {
		if v, is := s.Get(key); v != "" || is {
			t.Errorf("Get: %q, %t", v, is)
		}
		if v, is := s.Value(state.KeyOf(key)); v != "" || is {
			t.Errorf("Value: %q, %t", v, is)
		}
	}
	if n, id := s.Last(1); n != 0 || id != "" {
		t.Errorf("Last: %d, %q", n, id)
	}
	for range s.All() {
		t.Error("All has something")
	}
	if s.Len() != 0 || s.Clone() != nil {
		t.Errorf("Len %d, Clone %v", s.Len(), s.Clone())
	}
	for _, x := range []api.Tx{of(1, 1, put("a", "1")), of(1, 9, put("a", "1")), of(1, 1, check("a", "1")), {}} {
		if l, e := s.Apply(x); len(l) != 0 || e != api.ErrArg {
			t.Errorf("Apply: %q, %d", l, e)
		}
	}
	if got := s.Encode(); got != "\x00\x00\x00\x00" || got != state.New().Encode() {
		t.Errorf("Encode: %q", got)
	}
	if !state.Same(nil, nil) || !state.Same(s, s) {
		t.Error("two nil states are not the same")
	}
	for _, other := range []*state.State{state.New(), {}, some(t)} {
		if state.Same(s, other) || state.Same(other, s) {
			t.Error("a nil state is the same as another one")
		}
	}
}
