package chain_test

import (
	"slices"
	"testing"

	"muniment/api"
	"muniment/chain"
)

// refused holds that a block is not added: the error, and nothing is changed.
func refused(t *testing.T, c *chain.Chain, l *ledger, b api.Block, want api.Errno) {
	t.Helper()
	if e := c.Add(b); e != want {
		t.Fatalf("%#v: %d, want %d", b, e, want)
	}
	l.holds(t, c)
}

// Promises 10.1 and 10.3: blocks that one makes are right for one that stands where it stood, one behind the other.
func TestAdd(t *testing.T) {
	for _, name := range names() {
		for _, members := range rightMembers() {
			a, l := made(t, name, members)
			b, k := made(t, name, members)
			for _, x := range some() {
				both(t, a, l, x)
				k.apply(x)
				block, _ := a.Block(a.Tip().Height)
				if e := b.Add(block); e != api.OK {
					t.Fatalf("%#v: %d", block, e)
				}
			}
			k.holds(t, b)
			l.holds(t, a)
		}
	}
}

// Promise 10.3: it does not hang on which of both makes the next block, or how it came to stand where it stands.
func TestAddByTurns(t *testing.T) {
	a, l := made(t, "x", []int{0, 1, 2})
	b, _ := made(t, "x", []int{0, 1, 2})
	for _, x := range some() {
		if e := b.Add(both(t, a, l, x)); e != api.OK {
			t.Fatal(e)
		}
		l.holds(t, b)
		a, b = b, a
	}
}

// headers is headers that differ from one in one thing each, and may be; first those behind one another's digests.
func headers(h api.Header) []api.Header {
	var out []api.Header
	add := func(change func(k *api.Header)) {
		k := h
		k.Members = slices.Clone(h.Members)
		change(&k)
		out = append(out, k)
	}
	for _, height := range []uint64{1, h.Height - 1, h.Height + 1, h.Height + 1<<32, 1<<64 - 1} {
		if height != 0 && height != h.Height {
			add(func(k *api.Header) { k.Height = height })
		}
	}
	for i := range 3 {
		add(func(k *api.Header) { k.Prev = digest(i) })
		add(func(k *api.Header) { k.TxRoot = digest(i) })
		add(func(k *api.Header) { k.StateRoot = digest(i) })
	}
	add(func(k *api.Header) { k.Prev = k.StateRoot })
	add(func(k *api.Header) { k.Prev = h.Prev[:31] + string([]byte{h.Prev[31] ^ 1}) })
	add(func(k *api.Header) { k.TxRoot = string([]byte{h.TxRoot[0] ^ 128}) + h.TxRoot[1:] })
	add(func(k *api.Header) { k.TxRoot, k.StateRoot = k.StateRoot, k.TxRoot })
	return out
}

// Promise 10.1: ErrBlock for something else in the header, and nothing is changed; then the right one is added.
func TestAddOfOtherHeaders(t *testing.T) {
	for n := range len(some()) {
		c, l := made(t, "x", []int{0, 1, 2}, some()[:n]...)
		right, _ := l.clone().apply(some()[n])
		for _, h := range headers(right.Header) {
			refused(t, c, l, api.Block{Header: h, Txs: right.Txs}, api.ErrBlock)
		}
		if e := c.Add(right); e != api.OK {
			t.Fatal(e)
		}
		l.apply(some()[n])
		l.holds(t, c)
	}
}

// Promise 10.1: a block with transactions under other members is ErrBlock; without any it is one of a batch with Conf.
func TestAddOfOtherMembers(t *testing.T) {
	c, l := made(t, "x", []int{0, 1, 2}, some()[0])
	for _, members := range rightMembers() {
		x, _ := l.clone().apply(batch(of(5, 1, put("z", "1"))))
		x.Header.Members = members
		if !slices.Equal(members, l.members) {
			refused(t, c, l, x, api.ErrBlock)
		}
	}
	for _, members := range rightMembers() {
		x, _ := l.apply(conf(members...))
		if e := c.Add(x); e != api.OK {
			t.Fatalf("%v: %d", members, e)
		}
		l.holds(t, c)
	}
}

// Promise 10.1: ErrHead for a header that may not be, and nothing is changed.
func TestAddOfHeadersThatMayNotBe(t *testing.T) {
	c, l := made(t, "x", []int{0, 1, 2}, some()...)
	right, _ := l.clone().apply(batch(of(9, 1, put("z", "1"))))
	add := func(change func(b *api.Block)) {
		b := deep(right)
		change(&b)
		refused(t, c, l, b, api.ErrHead)
	}
	add(func(b *api.Block) { *b = api.Block{} })
	add(func(b *api.Block) { b.Header.Height = 0 })
	for _, s := range []string{"", digest(0)[1:], digest(0) + "x"} {
		add(func(b *api.Block) { b.Header.Prev = s })
		add(func(b *api.Block) { b.Header.TxRoot = s })
		add(func(b *api.Block) { b.Header.StateRoot = s })
	}
	for _, members := range append(wrongMembers(), nil) {
		add(func(b *api.Block) { b.Header.Members = members })
	}
}

// Promise 10.1: ErrBlock with a transaction more, less, changed or moved, also where the header's root is that of what stands there.
func TestAddOfOtherTransactions(t *testing.T) {
	c, l := made(t, "x", []int{0, 1, 2}, some()[0])
	x, y, z := of(5, 1, put("z", "1")), of(6, 1, put("y", "2")), of(5, 2, check("z", "1"))
	right, _ := l.clone().apply(batch(x, y, z))
	for _, txs := range [][]api.Tx{
		nil, {x}, {x, y}, {y, z}, {x, z}, {x, z, y}, {y, x, z}, {x, y, z, of(7, 1, none("none"))}, {x, y, z, z}, {x, x, y, z},
		{x, y, of(5, 3, check("z", "1"))}, {x, y, of(5, 2, check("z", "2"))}, {of(5, 1, put("z", "2")), y, z}, {x, of(1, 1, put("a", "1")), y, z},
	} {
		b := api.Block{Header: right.Header, Txs: txs}
		refused(t, c, l, b, api.ErrBlock)
		if other, _ := l.clone().apply(batch(txs...)); sameTxs(other.Txs, txs) {
			continue // all can be done: with that root, and that of the state, it is another block that is right
		}
		b.Header.TxRoot = plainTxRoot(txs)
		refused(t, c, l, b, api.ErrBlock)
	}
	if e := c.Add(right); e != api.OK {
		t.Error(e)
	}
}

// Promise 10.1: CheckBatch's errors of a block's transactions.
func TestAddOfTransactionsThatMayNotBe(t *testing.T) {
	c, l := made(t, "x", []int{0, 1, 2}, some()[1])
	right, _ := l.clone().apply(batch(many(3)...))
	for _, x := range wrongTxs() {
		refused(t, c, l, api.Block{Header: right.Header, Txs: append(many(3), x)}, api.ErrTx)
		refused(t, c, l, api.Block{Header: right.Header, Txs: []api.Tx{x}}, api.ErrTx)
	}
	refused(t, c, l, api.Block{Header: right.Header, Txs: many(api.MaxTxs + 1)}, api.ErrMany)
}

// Promise 10.1: blocks of a chain of another name, or of other members, are not right.
func TestAddOfOtherChains(t *testing.T) {
	c, l := made(t, "x", []int{0, 1, 2})
	for _, b := range append(some(), batch()) {
		for _, other := range []*ledger{begin("y", 0, 1, 2), begin("", 0, 1, 2), begin("x\x00", 0, 1, 2), begin("x", 0, 1), begin("x", 0, 1, 3)} {
			x, _ := other.apply(b)
			refused(t, c, l, x, api.ErrBlock)
			x.Header.Members = slices.Clone(l.members)
			refused(t, c, l, x, api.ErrBlock)
		}
	}
	x, _ := l.clone().apply(some()[0])
	if e := c.Add(x); e != api.OK {
		t.Error(e)
	}
}

// Promise 10.1: blocks that were added already, made by itself, left out ahead, or of another way from there, are not right.
func TestAddOfBlocksOutOfOrder(t *testing.T) {
	c, l := made(t, "x", []int{0, 1, 2}, some()...)
	for _, b := range l.blocks {
		refused(t, c, l, b, api.ErrBlock)
	}
	d, k := made(t, "x", []int{0, 1, 2})
	for i, b := range l.blocks {
		for _, ahead := range l.blocks[i+1:] {
			refused(t, d, k, ahead, api.ErrBlock)
		}
		if e := d.Add(b); e != api.OK {
			t.Fatal(e)
		}
		k.apply(some()[i])
		k.holds(t, d)
		for _, behind := range l.blocks[:i+1] {
			refused(t, d, k, behind, api.ErrBlock)
		}
	}
	fork := l.clone()
	fork.apply(batch(of(9, 1, put("z", "1"))))
	other, _ := fork.apply(batch(of(9, 2, put("z", "2"))))
	both(t, c, l, batch())
	refused(t, c, l, other, api.ErrBlock)
}

// Promise 10.1: a block that leads nowhere but where the chain is, is added each time that another is made of the same batch.
func TestAddOfEmptyBlocks(t *testing.T) {
	a, l := made(t, "", []int{7})
	b, _ := made(t, "", []int{7})
	for range 20 {
		x := both(t, a, l, api.Batch{})
		if e := b.Add(x); e != api.OK {
			t.Fatal(e)
		}
		refused(t, b, l, x, api.ErrBlock)
	}
}
