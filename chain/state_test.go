package chain_test

import (
	"testing"

	"muniment/api"
	"muniment/chain"
	"muniment/smt"
	"muniment/state"
)

// Promise 10.2: Get and Last, of those that have something and those that have nothing.
func TestGetAndLast(t *testing.T) {
	x, y := of(1, 1, put("a", "1"), put("empty", ""), put("b", "2")), of(1, 2, del("b"))
	c, _ := made(t, "x", []int{0, 1}, batch(x), batch(y, of(2, 1, check("a", "9"))))
	for key, want := range map[string]string{"a": "1", "empty": ""} {
		if v, is := c.Get(key); v != want || !is {
			t.Errorf("Get(%q): %q, %t", key, v, is)
		}
	}
	for _, key := range []string{"b", "c", "", "ka", "k", "n", "n" + plain8(1), sample(0, api.MaxKey+1)} {
		if v, is := c.Get(key); v != "" || is {
			t.Errorf("Get(%q): %q, %t", key, v, is)
		}
	}
	if n, id := c.Last(1); n != 2 || id != tagged("T", plainTx(y)) {
		t.Errorf("%d, %x", n, id)
	}
	for _, client := range []uint64{0, 2, 1 << 56, 1<<64 - 1} {
		if n, id := c.Last(client); n != 0 || id != "" {
			t.Errorf("Last(%d): %d, %x", client, n, id)
		}
	}
}

// Promise 10.2: State is one of its own: what is done to it changes nothing of the chain, and the chain nothing of it.
func TestStateIsItsOwn(t *testing.T) {
	c, l := made(t, "x", []int{0, 1}, some()...)
	before, bytes := c.State(), l.m.bytes()
	s := c.State()
	if texts, e := s.Apply(of(30, 1, put("a", "another"), put("z", "1"), del("b"))); e != api.OK || len(texts) != 4 {
		t.Fatal(texts, e)
	}
	l.holds(t, c)
	if v, _ := s.Get("a"); v != "another" {
		t.Errorf("%q", v)
	}
	both(t, c, l, batch(of(30, 1, put("a", "yet another"))))
	l.holds(t, c)
	if v, _ := s.Get("a"); v != "another" || before.Encode() != bytes {
		t.Errorf("%q, %q", v, before.Encode())
	}
	if !state.Same(c.State(), c.State()) || state.Same(c.State(), before) {
		t.Error("states that are the same are not, or others are")
	}
}

// Promise 10.2: proofs of texts that are there, and of those that are not, under the last block's StateRoot.
func TestProve(t *testing.T) {
	c, l := made(t, "x", []int{0, 1})
	for _, b := range some() {
		x := both(t, c, l, b)
		root := x.Header.StateRoot
		for text, value := range c.State().All() {
			if p := c.Prove(text); !smt.Verify(root, text, value, true, p) || smt.Verify(root, text, value+"x", true, p) || smt.Verify(root, text, "", false, p) {
				t.Errorf("%q: %#v", text, p)
			}
		}
		for _, text := range []string{"", "k", "a", "knobody's", "n", state.NonceOf(99), state.KeyOf(text32())} {
			if p := c.Prove(text); !smt.Verify(root, text, "", false, p) || smt.Verify(root, text, "", true, p) {
				t.Errorf("%q: %#v", text, p)
			}
		}
	}
}

// text32 is a key as long as keys may be that nobody puts.
func text32() string { return sample(5, api.MaxKey) }

// Promise 10.2: a chain without texts proves that there are none.
func TestProveOfNothing(t *testing.T) {
	c, _ := made(t, "x", []int{0, 1})
	for _, text := range []string{"", "ka", "kb", state.NonceOf(1)} {
		if p := c.Prove(text); len(p.Beside) != 0 || p.Has || !smt.Verify(smt.Empty(), text, "", false, p) {
			t.Errorf("%q: %#v", text, p)
		}
	}
}

// Promises 10.1, 10.2: chains of refused blocks prove what they proved: Add works on nothing of the chain's before it knows.
func TestProveBehindARefusedBlock(t *testing.T) {
	c, l := made(t, "x", []int{0, 1}, some()[:1]...)
	x, _ := l.clone().apply(batch(of(1, 2, put("a", "9"), put("new", "1"))))
	x.Header.StateRoot = digest(1)
	refused(t, c, l, x, api.ErrBlock)
	if p := c.Prove("knew"); !smt.Verify(l.m.root(), "knew", "", false, p) {
		t.Errorf("%#v", p)
	}
	var d *chain.Chain
	if e := d.Add(x); e != api.ErrArg {
		t.Error(e)
	}
}
