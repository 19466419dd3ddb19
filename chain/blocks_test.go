package chain_test

import (
	"slices"
	"testing"

	"muniment/api"
	"muniment/chain"
)

// Promise 10.1: Block at each height, cut and kept, and at none; how many went with Cut, wherever it is.
func TestCut(t *testing.T) {
	n := uint64(len(some()))
	for first := range n + 3 {
		for second := range n + 3 {
			c, l := made(t, "x", []int{0, 1, 2}, some()...)
			for _, height := range []uint64{first, second} {
				if got, want := c.Cut(height), l.cut(height); got != want {
					t.Fatalf("Cut(%d): %d, want %d", height, got, want)
				}
				if want := max(min(height, n), l.base()); c.Base() != want {
					t.Fatalf("Cut(%d): Base is %d, want %d", height, c.Base(), want)
				}
				l.holdsBlocks(t, c)
			}
			for height := range n + 3 {
				if _, e := c.Block(height); (e == api.OK) != (height > c.Base() && height <= n) || e != api.OK && e != api.ErrNone {
					t.Errorf("Block(%d) behind Cut(%d) and Cut(%d): %d", height, first, second, e)
				}
			}
		}
	}
}

// Promise 10.1: Cut at 0, below what is kept, within, at the last one and above it.
func TestCutOneByOne(t *testing.T) {
	c, l := made(t, "x", []int{0, 1, 2}, some()...)
	for _, x := range []struct {
		height uint64
		many   int
		base   uint64
	}{{0, 0, 0}, {1, 1, 1}, {1, 0, 1}, {0, 0, 1}, {4, 3, 4}, {3, 0, 4}, {4, 0, 4}, {9, 5, 9}, {9, 0, 9}, {10, 0, 9}, {1<<64 - 1, 0, 9}} {
		if n := c.Cut(x.height); n != x.many || c.Base() != x.base || l.cut(x.height) != n {
			t.Errorf("Cut(%d): %d, and Base is %d", x.height, n, c.Base())
		}
		l.holds(t, c)
	}
	for _, above := range []uint64{10, 11, 1 << 32, 1<<64 - 1} {
		d, k := made(t, "x", []int{0, 1, 2}, some()...)
		if n := d.Cut(above); n != 9 || d.Base() != 9 || k.cut(above) != 9 {
			t.Errorf("Cut(%d): %d, and Base is %d", above, n, d.Base())
		}
		k.holds(t, d)
	}
}

// Promise 10.1: Cut of a chain without blocks.
func TestCutOfNone(t *testing.T) {
	c, l := made(t, "x", []int{0})
	for _, height := range []uint64{0, 1, 1<<64 - 1} {
		if n := c.Cut(height); n != 0 || c.Base() != 0 {
			t.Errorf("Cut(%d): %d, and Base is %d", height, n, c.Base())
		}
		l.holds(t, c)
	}
}

// Promise 10.1: what is cut changes nothing of where a chain stands, and it goes on, by Apply and by Add.
func TestCutAndGoOn(t *testing.T) {
	a, l := made(t, "x", []int{0, 1, 2})
	b, k := made(t, "x", []int{0, 1, 2})
	for i, x := range some() {
		block := both(t, a, l, x)
		k.apply(x)
		if e := b.Add(block); e != api.OK {
			t.Fatal(e)
		}
		if i%2 == 1 {
			if n := b.Cut(uint64(i)); n != k.cut(uint64(i)) {
				t.Error(n)
			}
		}
		l.holds(t, a)
		k.holds(t, b)
	}
}

// Promise 10.1: All of none, of one and of many, rising; it is the same when it is gone over again.
func TestAll(t *testing.T) {
	for n := range len(some()) + 1 {
		c, l := made(t, "x", []int{0, 1, 2}, some()[:n]...)
		all := c.All()
		for range 2 {
			if got := slices.Collect(all); len(got) != n || !slices.EqualFunc(got, l.blocks, sameBlock) {
				t.Errorf("%#v, want %#v", got, l.blocks)
			}
		}
	}
}

// Promise 10.1: All may be left early, behind any block, and gone over anew.
func TestAllLeftEarly(t *testing.T) {
	c, l := made(t, "x", []int{0, 1, 2}, some()...)
	c.Cut(2)
	l.cut(2)
	all := c.All()
	for n := range l.blocks {
		var got []api.Block
		for b := range all {
			got = append(got, b)
			if len(got) == n+1 {
				break
			}
		}
		if !slices.EqualFunc(got, l.blocks[:n+1], sameBlock) {
			t.Errorf("%#v, want %#v", got, l.blocks[:n+1])
		}
	}
	l.holds(t, c)
}

// Promise 10.1, Rule R2: All is what was kept when it was called, whatever is cut, made or added later, and on the way.
func TestAllIsTheCallersOwn(t *testing.T) {
	c, l := made(t, "x", []int{0, 1, 2}, some()[:5]...)
	before := c.All()
	var got []api.Block
	for b := range c.All() {
		got = append(got, b)
		both(t, c, l, batch(of(20, l.height, put("z", "1"))))
		c.Cut(b.Header.Height + 1)
		l.cut(b.Header.Height + 1)
		l.holdsBlocks(t, c)
	}
	want := begin("x", 0, 1, 2)
	for _, b := range some()[:5] {
		want.apply(b)
	}
	if !slices.EqualFunc(got, want.blocks, sameBlock) || !slices.EqualFunc(slices.Collect(before), want.blocks, sameBlock) {
		t.Errorf("%#v, want %#v", got, want.blocks)
	}
	l.holds(t, c)
}

// spoil changes all that can be changed in a block.
func spoil(b api.Block) {
	for i := range b.Header.Members {
		b.Header.Members[i] = 99
	}
	for i, x := range b.Txs {
		for j := range x.Ops {
			x.Ops[j] = put("spoilt", "spoilt")
		}
		b.Txs[i].Client, b.Txs[i].Ops = 99, nil
	}
	_ = append(b.Header.Members, 77)
	_ = append(b.Txs, api.Tx{Client: 77})
}

// Rule R2: what Apply, Block, All and Tip answer is the caller's own.
func TestAnswersAreTheCallersOwn(t *testing.T) {
	c, l := made(t, "x", []int{0, 1, 2})
	spoil(api.Block{Header: api.Header{Members: c.Tip().Members}})
	for _, b := range some() {
		spoil(both(t, c, l, b))
		l.holds(t, c)
		x, _ := c.Block(l.height)
		spoil(x)
		for x := range c.All() {
			spoil(x)
		}
		spoil(api.Block{Header: api.Header{Members: c.Tip().Members}})
		l.holds(t, c)
	}
	p := c.Prove("ka")
	for i := range p.Beside {
		p.Beside[i] = digest(0)
	}
	l.holds(t, c)
}

// Rule R2: what is handed in to New, Apply and Add is not changed, and may be changed later.
func TestWhatIsHandedInMayBeChanged(t *testing.T) {
	members := []int{0, 1, 2, 9, 9}
	c, e := chain.New("x", members[:3])
	if e != api.OK {
		t.Fatal(e)
	}
	d, k := made(t, "x", []int{0, 1, 2})
	l := begin("x", 0, 1, 2)
	clear(members)
	l.holds(t, c)
	for _, b := range some() {
		given := api.Batch{Txs: deepTxs(b.Txs), Conf: b.Conf, Members: slices.Clone(b.Members)}
		x := both(t, c, l, given)
		if !sameTxs(given.Txs, b.Txs) || !slices.Equal(given.Members, b.Members) {
			t.Errorf("%#v, was %#v", given, b)
		}
		spoil(api.Block{Header: api.Header{Members: given.Members}, Txs: given.Txs})
		l.holds(t, c)
		was := deep(x)
		if e := d.Add(x); e != api.OK || !sameBlock(x, was) {
			t.Errorf("%d: %#v, was %#v", e, x, was)
		}
		k.apply(b)
		spoil(x)
		k.holds(t, d)
		refused(t, d, k, was, api.ErrBlock)
	}
}
