package chain_test

import (
	"slices"
	"testing"

	"muniment/api"
	"muniment/chain"
)

// Promise 10.1, the chapter's example: blocks of two batches, added to another chain of the same name: the same Tip.
func TestExample(t *testing.T) {
	a, l := made(t, "x", []int{0, 1}, batch(of(1, 1, put("a", "1"))), batch(of(1, 2, del("a")), of(1, 2, put("a", "2"))))
	b, _ := made(t, "x", []int{0, 1})
	for x := range a.All() {
		if e := b.Add(x); e != api.OK {
			t.Fatal(e)
		}
	}
	p, q := a.Tip(), b.Tip()
	if p.Height != 2 || p.Height != q.Height || p.Hash != q.Hash || !slices.Equal(p.Members, q.Members) {
		t.Errorf("%#v, %#v", p, q)
	}
	l.holds(t, a)
	l.holds(t, b)
}

// rightMembers is lists that may be who takes part.
func rightMembers() [][]int {
	return [][]int{{0}, {15}, {0, 1}, {0, 1, 2}, {3, 9, 15}, upTo(15), upTo(16)}
}

// names is names that may be, up to the ends.
func names() []string {
	return []string{"", "x", "\x00", sample(0, api.MaxKey-1), sample(0, api.MaxKey)}
}

// Promise 10.1: a new chain, by names and members up to the ends: no blocks, no texts, Genesis.
func TestNew(t *testing.T) {
	for _, name := range names() {
		for _, members := range rightMembers() {
			c, l := made(t, name, members)
			l.holds(t, c)
			if tip := c.Tip(); tip.Height != 0 || tip.Hash != c.Genesis() || c.Base() != 0 || c.State().Len() != 0 {
				t.Errorf("%#v, %d, %d texts", tip, c.Base(), c.State().Len())
			}
		}
	}
}

// Promise 10.1: ErrArg, and no chain, if members may not be, or the name is too long.
func TestNewOfWhatMayNotBe(t *testing.T) {
	refused := func(name string, members []int) {
		t.Helper()
		if c, e := chain.New(name, members); c != nil || e != api.ErrArg {
			t.Errorf("%q, %v: %v, %d", name, members, c, e)
		}
	}
	for _, members := range append(wrongMembers(), nil, []int{}) {
		for _, name := range append(names(), sample(0, api.MaxKey+1)) {
			refused(name, members)
		}
	}
	for _, n := range []int{api.MaxKey + 1, api.MaxKey + 2, 256, 256 + api.MaxKey, 1 << 16} {
		refused(sample(0, n), []int{0, 1, 2})
	}
}

// Promise 10.1: Genesis hangs on the name and on who takes part at first, and stays, whoever comes and goes.
func TestGenesis(t *testing.T) {
	seen := map[string]int{}
	for _, name := range names() {
		for _, members := range rightMembers() {
			c, l := made(t, name, members)
			seen[c.Genesis()]++
			both(t, c, l, conf(0, 7))
			both(t, c, l, batch(of(1, 1, put("a", "1"))))
			if s := c.Genesis(); s != plainGenesis(name, members) {
				t.Errorf("%q, %v: %x", name, members, s)
			}
		}
	}
	if want := len(names()) * len(rightMembers()); len(seen) != want {
		t.Errorf("%d unlike ones, want %d", len(seen), want)
	}
}

// Promise 10.1: Tip, Genesis, Base and all else behind one block and behind many, of all kinds of batches.
func TestApply(t *testing.T) {
	for _, name := range names() {
		for _, members := range rightMembers() {
			c, l := made(t, name, members)
			for _, b := range some() {
				both(t, c, l, b)
			}
			l.holds(t, c)
		}
	}
	c, l := made(t, "x", []int{0, 1, 2})
	for _, b := range some() {
		both(t, c, l, b)
		l.holds(t, c)
		if tip := c.Tip(); tip.Height != uint64(len(l.blocks)) || c.Base() != 0 {
			t.Errorf("%#v, %d", tip, c.Base())
		}
	}
}

// Promise 10.1: what each transaction was told, one by one, and that those that can't be done stand in no block.
func TestApplyTells(t *testing.T) {
	c, _ := made(t, "x", []int{0, 1, 2})
	first := batch(of(1, 1, put("a", "1")), of(1, 1, put("a", "2")), of(1, 2, check("a", "2")), of(1, 2, none("a")), of(1, 2, check("a", "1"), put("b", "")))
	x, told, e := c.Apply(first)
	want := []api.Errno{api.OK, api.ErrNonce, api.ErrCheck, api.ErrCheck, api.OK}
	if e != api.OK || !slices.Equal(told, want) || !sameTxs(x.Txs, []api.Tx{first.Txs[0], first.Txs[4]}) {
		t.Errorf("%#v, %v, %d", x, told, e)
	}
	x, told, e = c.Apply(batch(of(1, 2, put("a", "3")), of(1, 4, put("a", "3"))))
	if e != api.OK || !slices.Equal(told, []api.Errno{api.ErrNonce, api.ErrNonce}) || len(x.Txs) != 0 || x.Header.Height != 2 {
		t.Errorf("%#v, %v, %d", x, told, e)
	}
	for _, b := range []api.Batch{{}, conf(0), conf(0, 1)} {
		if x, told, e = c.Apply(b); e != api.OK || len(told) != 0 || len(x.Txs) != 0 {
			t.Errorf("%#v, %v, %d", x, told, e)
		}
	}
	if tip := c.Tip(); tip.Height != 5 || !slices.Equal(tip.Members, []int{0, 1}) {
		t.Errorf("%#v", tip)
	}
}

// Promise 10.1: with more texts than there may be, ErrRoom is told, and the block is made without that transaction.
func TestApplyFillsUp(t *testing.T) {
	c, l := made(t, "x", []int{0})
	nonce, key := uint64(1), 0
	for l.height < 8 {
		var b api.Batch
		for range api.MaxTxs {
			x := of(1, nonce)
			for range api.MaxOps {
				x.Ops = append(x.Ops, put("key"+plainCount(key), "v"))
				key++
			}
			b.Txs = append(b.Txs, x)
			nonce++
		}
		both(t, c, l, b)
	}
	if n := c.State().Len(); n != api.MaxKeys-7 {
		t.Errorf("%d texts", n)
	}
	l.holds(t, c)
	d, e := chain.Decode(c.Encode())
	if e != api.OK {
		t.Fatal(e)
	}
	k := l.clone()
	k.blocks = nil
	k.holds(t, d)
}

// wrongBatches is batches that may not be, and the error of each.
func wrongBatches() map[api.Errno][]api.Batch {
	out := map[api.Errno][]api.Batch{
		api.ErrForm: {
			{Conf: true}, {Conf: true, Members: []int{}}, {Members: []int{0}}, {Members: []int{0, 1}, Txs: many(1)},
			{Conf: true, Members: []int{0}, Txs: many(1)}, {Conf: true, Members: []int{0}, Txs: many(api.MaxTxs + 1)}, {Members: []int{0}, Txs: wrongTxs()},
		},
		api.ErrMany: {batch(many(api.MaxTxs + 1)...), batch(many(2 * api.MaxTxs)...), batch(append(many(api.MaxTxs), api.Tx{})...)},
	}
	for _, l := range wrongMembers() {
		out[api.ErrForm] = append(out[api.ErrForm], conf(l...))
	}
	for _, x := range wrongTxs() {
		out[api.ErrTx] = append(out[api.ErrTx], batch(x), batch(of(1, 1, put("a", "9")), x), batch(x, of(1, 1, put("a", "9"))))
	}
	return out
}

// Promise 10.1: each of block.Make's errors, no block, and nothing is changed.
func TestApplyOfWhatMayNotBe(t *testing.T) {
	fresh, freshLedger := made(t, "x", []int{0, 1, 2})
	c, l := made(t, "x", []int{0, 1, 2}, some()...)
	for want, batches := range wrongBatches() {
		for _, b := range batches {
			for _, d := range []*chain.Chain{fresh, c} {
				if x, told, e := d.Apply(b); e != want || !noBlock(x) || len(told) != 0 {
					t.Errorf("%#v: %#v, %v, %d, want the error %d", b, x, told, e, want)
				}
			}
		}
		freshLedger.holds(t, fresh)
		l.holds(t, c)
	}
	both(t, c, l, batch(of(1, 3, put("a", "9"))))
	l.holds(t, c)
}

// Promise 10.1: behind the greatest height there is none: ErrArg, behind all that a batch may not be.
func TestApplyBehindTheGreatestHeight(t *testing.T) {
	l := begin("x", 0, 1)
	l.apply(batch(of(1, 1, put("a", "1"))))
	l.blocks, l.height = nil, 1<<64-3
	c, e := chain.Decode(l.bytes())
	if e != api.OK {
		t.Fatal(e)
	}
	both(t, c, l, batch(of(1, 2, put("a", "2"))))
	last := both(t, c, l, conf(0))
	l.holds(t, c)
	for _, b := range []api.Batch{{}, batch(of(1, 3, put("a", "3"))), conf(0, 1)} {
		if x, told, e := c.Apply(b); e != api.ErrArg || !noBlock(x) || len(told) != 0 {
			t.Errorf("%#v, %v, %d", x, told, e)
		}
	}
	if _, _, e := c.Apply(conf()); e != api.ErrForm {
		t.Error(e)
	}
	for _, b := range []api.Block{last, {}} {
		if e := c.Add(b); e != api.ErrArg {
			t.Error(e)
		}
	}
	l.holds(t, c)
	if n := c.Cut(1<<64 - 2); n != 1 || l.cut(1<<64-2) != 1 {
		t.Error(n)
	}
	l.holds(t, c)
	if n := c.Cut(1<<64 - 1); n != 1 || l.cut(1<<64-1) != 1 {
		t.Error(n)
	}
	l.holds(t, c)
}

// Rule R1, R4: a chain that nobody made panics nowhere; the same calls answer the same.
func TestChainThatNobodyMade(t *testing.T) {
	for range 2 {
		var c chain.Chain
		if _, _, e := c.Apply(api.Batch{}); e != api.ErrArg {
			t.Error(e)
		}
		if e := c.Add(api.Block{}); e != api.ErrArg {
			t.Error(e)
		}
		if _, e := c.Block(0); e != api.ErrNone {
			t.Error(e)
		}
		if n := c.Cut(1); n != 0 || c.Base() != 0 || c.Tip().Height != 0 || c.State().Len() != 0 || c.Prove("ka").Has {
			t.Error(n)
		}
		if _, e := chain.Decode(c.Encode()); e != api.ErrForm {
			t.Error(e)
		}
	}
}

// Promise 10.2: a nil chain: ErrArg, ErrNone, zero values.
func TestNilChain(t *testing.T) {
	var c *chain.Chain
	if tip := c.Tip(); tip.Height != 0 || tip.Hash != "" || len(tip.Members) != 0 {
		t.Errorf("%#v", tip)
	}
	if s := c.Genesis(); s != "" {
		t.Errorf("%x", s)
	}
	for _, b := range append(some(), conf(), batch(api.Tx{})) {
		if x, told, e := c.Apply(b); e != api.ErrArg || !noBlock(x) || len(told) != 0 {
			t.Errorf("%#v, %v, %d", x, told, e)
		}
	}
	_, l := made(t, "x", []int{0}, some()...)
	for _, b := range append(l.blocks, api.Block{}) {
		if e := c.Add(b); e != api.ErrArg {
			t.Error(e)
		}
	}
	for _, height := range []uint64{0, 1, 2, 1<<64 - 1} {
		if b, e := c.Block(height); e != api.ErrNone || !noBlock(b) {
			t.Errorf("%#v, %d", b, e)
		}
		if n := c.Cut(height); n != 0 {
			t.Error(n)
		}
	}
	for b := range c.All() {
		t.Errorf("%#v", b)
	}
	if s := c.State(); s != nil {
		t.Error(s)
	}
	if v, is := c.Get("a"); v != "" || is {
		t.Errorf("%q, %t", v, is)
	}
	if n, id := c.Last(1); n != 0 || id != "" {
		t.Errorf("%d, %x", n, id)
	}
	if p := c.Prove("ka"); len(p.Beside) != 0 || p.Has || p.Leaf != (api.Leaf{}) {
		t.Errorf("%#v", p)
	}
	if n := c.Base(); n != 0 {
		t.Error(n)
	}
	if s := c.Encode(); s != "" {
		t.Errorf("%q", s)
	}
}
