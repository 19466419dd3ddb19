package block_test

import (
	"slices"
	"testing"

	"muniment/api"
	"muniment/block"
)

// wrongFor holds that a block is not right at a place: the error, and state and tree stay.
func wrongFor(t *testing.T, w world, p place, b api.Block, want api.Errno) {
	t.Helper()
	before := deep(b)
	if e := block.Check(p.prev, p.height, p.members, p.s, p.t, b); e != want {
		t.Errorf("%#v, %#v: %d, want %d", p, b, e, want)
	}
	if !w.stands() {
		t.Fatalf("%#v, %#v: something is changed", p, b)
	}
	if !sameBlock(b, before) {
		t.Fatalf("%#v, was %#v", b, before)
	}
}

// here is a place behind a world.
func here(w world, height uint64, members ...int) place {
	return place{digest(1), height, members, w.s, w.t}
}

// some is a world, and batches that can be done behind it.
func some() (world, []api.Batch) {
	return after(many(9)...), []api.Batch{
		batch(), batch(of(7, 1, put("x", "1"))), batch(of(7, 1, put("x", "1")), of(7, 1, put("x", "2")), of(7, 2, del("key1"), check("x", "1"))),
		batch(many(16)[9:]...), conf(0), conf(0, 3), conf(0, 2, 3), conf(1), conf(upTo(16)...), batch(of(7, 9, put("x", "1"))),
		batch(of(0, 4, del("key0")), of(1, 4, del("key1")), of(2, 4, del("key2"), del("key3"), del("key4"))),
	}
}

// Promises 9.2 and 9.4: what Make makes is right, and state and tree go on with it; a second time it is not.
func TestCheck(t *testing.T) {
	w, l := some()
	for _, b := range l {
		for _, height := range []uint64{1, 2, 1 << 40, 1<<64 - 1} {
			x, behind, _ := w.m.block(digest(1), height, []int{0, 3}, b)
			other := w.clone()
			if e := block.Check(digest(1), height, []int{0, 3}, other.s, other.t, x); e != api.OK || !behind.is(other.s, other.t) {
				t.Errorf("%#v: %d", x, e)
			}
			if len(x.Txs) == 0 {
				continue
			}
			other.m = behind
			wrongFor(t, other, here(other, height, 0, 3), x, api.ErrBlock)
		}
	}
}

// otherHeaders is headers that may be, and differ from a given one in one thing alone, but not in Members.
func otherHeaders(h api.Header) []api.Header {
	var out []api.Header
	for bit := range 64 {
		k := h
		if k.Height ^= 1 << bit; k.Height != 0 {
			out = append(out, k)
		}
	}
	for i := range api.HashBytes {
		for bit := range 8 {
			for _, which := range []func(*api.Header) *string{
				func(h *api.Header) *string { return &h.Prev }, func(h *api.Header) *string { return &h.TxRoot },
				func(h *api.Header) *string { return &h.StateRoot }} {
				k := h
				s := []byte(*which(&k))
				s[i] ^= 1 << bit
				*which(&k) = string(s)
				out = append(out, k)
			}
		}
	}
	return out
}

// Promises 9.2 and 9.4: a block whose header has anything else is not right.
func TestCheckOfOtherHeaders(t *testing.T) {
	w, l := some()
	for i, b := range l {
		x, _, _ := w.m.block(digest(1), 5, []int{0, 3}, b)
		for at, h := range otherHeaders(x.Header) {
			if testing.Short() && at%7 != i%7 {
				continue
			}
			wrongFor(t, w, here(w, 5, 0, 3), api.Block{Header: h, Txs: x.Txs}, api.ErrBlock)
		}
		// the same block elsewhere
		wrongFor(t, w, here(w, 4, 0, 3), x, api.ErrBlock)
		wrongFor(t, w, place{digest(2), 5, []int{0, 3}, w.s, w.t}, x, api.ErrBlock)
		other := after(many(8)...)
		wrongFor(t, other, here(other, 5, 0, 3), x, api.ErrBlock)
	}
}

// Promise 9.2: a block whose Members are other ones: with transactions ErrBlock, without them it is one that a batch with Conf made.
func TestCheckOfOtherMembers(t *testing.T) {
	w, l := some()
	for _, b := range l {
		x, behind, _ := w.m.block(digest(1), 5, []int{0, 3}, b)
		for _, others := range [][]int{{0}, {3}, {0, 2}, {0, 3, 4}, {1, 3}, upTo(16)} {
			y := deep(x)
			y.Header.Members = others
			if len(x.Txs) > 0 {
				wrongFor(t, w, here(w, 5, 0, 3), y, api.ErrBlock)
				continue
			}
			other := w.clone()
			if e := block.Check(digest(1), 5, []int{0, 3}, other.s, other.t, y); e != api.OK || !behind.is(other.s, other.t) {
				t.Errorf("%#v: %d", y, e)
			}
		}
	}
}

// Promise 9.2: with other Members and transactions ErrBlock comes ahead of CheckBatch's error.
func TestCheckOfOtherMembersWithWhatMayNotBe(t *testing.T) {
	w, _ := some()
	x, _, _ := w.m.block(digest(1), 5, []int{0, 3}, batch())
	for _, l := range append([][]api.Tx{many(17), many(300)}, wrongTxs()[:1], wrongTxs()[1:2], wrongTxs()) {
		y := api.Block{Header: x.Header, Txs: l}
		y.Header.Members = []int{0}
		wrongFor(t, w, here(w, 5, 0, 3), y, api.ErrBlock)
	}
}

// Promise 9.2: CheckBatch's error, ErrMany and ErrTx, ahead of ErrBlock for a header that is another one.
func TestCheckOfTransactionsThatMayNotBe(t *testing.T) {
	w, l := some()
	for _, b := range l {
		x, _, _ := w.m.block(digest(1), 5, []int{0, 3}, b)
		x.Header.Members = []int{0, 3}
		for _, h := range append(otherHeaders(x.Header)[:3], x.Header) {
			for _, n := range []int{17, 18, 300} {
				wrongFor(t, w, here(w, 5, 0, 3), api.Block{Header: h, Txs: many(n)}, api.ErrMany)
			}
			for _, wrong := range wrongTxs() {
				for _, ahead := range []int{0, 1, 15} {
					wrongFor(t, w, here(w, 5, 0, 3), api.Block{Header: h, Txs: append(many(ahead), wrong)}, api.ErrTx)
				}
				wrongFor(t, w, here(w, 5, 0, 3), api.Block{Header: h, Txs: append(many(16), wrong)}, api.ErrMany)
			}
		}
	}
}

// Promise 9.2: a transaction that can't be done is ErrBlock, though the header is the one of those that can, or has the root of all.
func TestCheckOfWhatCannotBeDone(t *testing.T) {
	w, _ := some()
	for _, bad := range []api.Tx{of(7, 2, put("x", "1")), of(0, 1, put("x", "1")), of(7, 1, check("x", "1")), of(7, 1, put("x", "1"), none("key0"))} {
		for at := range 3 {
			l := slices.Insert([]api.Tx{of(8, 1, put("y", "1")), of(8, 2, del("key0"), put("key0", "7"))}, at, bad)
			x, _, _ := w.m.block(digest(1), 5, []int{0, 3}, batch(l...))
			if len(x.Txs) != 2 {
				t.Fatalf("%#v", x)
			}
			wrongFor(t, w, here(w, 5, 0, 3), api.Block{Header: x.Header, Txs: l}, api.ErrBlock)
			x.Header.TxRoot = plainTxRoot(l)
			wrongFor(t, w, here(w, 5, 0, 3), api.Block{Header: x.Header, Txs: l}, api.ErrBlock)
		}
		x, _, _ := w.m.block(digest(1), 5, []int{0, 3}, batch())
		wrongFor(t, w, here(w, 5, 0, 3), api.Block{Header: x.Header, Txs: []api.Tx{bad}}, api.ErrBlock)
	}
}

// Promise 9.2: transactions under a header of others, of fewer, of more, of the same in another order.
func TestCheckOfOtherTransactions(t *testing.T) {
	w, _ := some()
	l := []api.Tx{of(7, 1, put("x", "1")), of(8, 1, put("y", "1")), of(9, 1, put("z", "1"))}
	x, _, _ := w.m.block(digest(1), 5, []int{0, 3}, batch(l...))
	for _, others := range [][]api.Tx{nil, l[:1], l[:2], l[1:], {l[1], l[0], l[2]}, append(slices.Clone(l), of(7, 2, none("a"))), {of(7, 1, put("x", "2")), l[1], l[2]}} {
		wrongFor(t, w, here(w, 5, 0, 3), api.Block{Header: x.Header, Txs: others}, api.ErrBlock)
	}
}

// wrongHeaders is headers that may not be, each for one reason alone.
func wrongHeaders(h api.Header) []api.Header {
	var out []api.Header
	add := func(change func(k *api.Header)) {
		k := h
		change(&k)
		out = append(out, k)
	}
	add(func(k *api.Header) { k.Height = 0 })
	for _, s := range []string{"", digest(1)[1:], digest(1) + "\x00", sample(0, 64)} {
		add(func(k *api.Header) { k.Prev = s })
		add(func(k *api.Header) { k.TxRoot = s })
		add(func(k *api.Header) { k.StateRoot = s })
	}
	for _, l := range append(wrongMembers(), nil, []int{}) {
		add(func(k *api.Header) { k.Members = l })
	}
	return out
}

// Promise 9.2: head.Check's error ahead of ErrBlock and of CheckBatch's.
func TestCheckOfHeadersThatMayNotBe(t *testing.T) {
	w, l := some()
	for _, b := range l {
		x, _, _ := w.m.block(digest(1), 5, []int{0, 3}, b)
		for _, h := range wrongHeaders(x.Header) {
			for _, txs := range [][]api.Tx{x.Txs, nil, many(17), wrongTxs()[:1]} {
				wrongFor(t, w, here(w, 5, 0, 3), api.Block{Header: h, Txs: txs}, api.ErrHead)
			}
		}
	}
}

// Promise 9.2: each of ErrArg's reasons, ahead of all that is wrong with the block.
func TestCheckAtWrongPlaces(t *testing.T) {
	w, l := some()
	for _, b := range l {
		x, _, _ := w.m.block(digest(1), 1, []int{0}, b)
		for _, p := range wrongPlaces(w) {
			wrongFor(t, w, p, x, api.ErrArg)
			wrongFor(t, w, p, api.Block{}, api.ErrArg)
			wrongFor(t, w, p, api.Block{Header: x.Header, Txs: many(17)}, api.ErrArg)
			wrongFor(t, w, p, api.Block{Header: x.Header, Txs: wrongTxs()}, api.ErrArg)
		}
	}
}

// Rule R2: what is handed in to Check is not kept: state and tree stay when the block is changed later.
func TestCheckKeepsNothing(t *testing.T) {
	w, l := some()
	for _, b := range l {
		x, behind, _ := w.m.block(digest(1), 5, []int{0, 3}, b)
		other := w.clone()
		y, members := deep(x), []int{0, 3}
		if e := block.Check(digest(1), 5, members, other.s, other.t, y); e != api.OK || !sameBlock(x, y) || !slices.Equal(members, []int{0, 3}) {
			t.Errorf("%#v, %v, %d", y, members, e)
		}
		for i := range y.Txs {
			clear(y.Txs[i].Ops)
		}
		clear(y.Txs)
		clear(members)
		if !behind.is(other.s, other.t) || !w.stands() {
			t.Errorf("%#v: state or tree are changed", x)
		}
	}
}
