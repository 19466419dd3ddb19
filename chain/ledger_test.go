package chain_test

import (
	"slices"
	"strconv"
	"testing"

	"muniment/api"
	"muniment/chain"
	"muniment/smt"
)

// ledger is a chain by the document's words.
type ledger struct {
	name    string
	first   []int
	height  uint64
	hash    string
	members []int
	m       model
	blocks  []api.Block // that are kept
}

// begin is a ledger without blocks.
func begin(name string, members ...int) *ledger {
	return &ledger{name: name, first: members, hash: plainGenesis(name, members), members: members, m: model{}}
}

// plainGenesis is the digest ahead of the first block by the document's words.
func plainGenesis(name string, members []int) string {
	return tagged("G", plainText(name)+plainMembers(members))
}

// apply lays the block of a batch behind the others: it, and what each was told.
func (l *ledger) apply(b api.Batch) (api.Block, []api.Errno) {
	x, behind, told := l.m.block(l.hash, l.height+1, l.members, b)
	x = deep(x) // nothing of what a test hands in, and changes later
	l.height, l.hash, l.members, l.m = x.Header.Height, tagged("H", plainHeader(x.Header)), x.Header.Members, behind
	l.blocks = append(l.blocks, x)
	return deep(x), told
}

// base is the height of the last block that is not kept.
func (l *ledger) base() uint64 { return l.height - uint64(len(l.blocks)) }

// cut lets blocks up to a height go: how many.
func (l *ledger) cut(height uint64) int {
	var left []api.Block
	for _, b := range l.blocks {
		if b.Header.Height > height {
			left = append(left, b)
		}
	}
	many := len(l.blocks) - len(left)
	l.blocks = left
	return many
}

// front is what stands ahead of the state in a ledger's snapshot.
func (l *ledger) front() string {
	return plainText(l.name) + plainMembers(l.first) + plain8(l.height) + l.hash + plainMembers(l.members)
}

// bytes is a ledger's snapshot by the chapter's words.
func (l *ledger) bytes() string { return l.front() + plainText(l.m.bytes()) }

// clone is a ledger of its own; it shares only what is never changed.
func (l *ledger) clone() *ledger {
	k := *l
	k.blocks = slices.Clone(l.blocks)
	return &k
}

// holds holds that a chain tells just what a ledger says.
func (l *ledger) holds(t *testing.T, c *chain.Chain) {
	t.Helper()
	tip := c.Tip()
	if tip.Height != l.height || tip.Hash != l.hash || !slices.Equal(tip.Members, l.members) {
		t.Fatalf("Tip: %d, %x, %v, want %d, %x, %v", tip.Height, tip.Hash, tip.Members, l.height, l.hash, l.members)
	}
	if s := c.Genesis(); s != plainGenesis(l.name, l.first) {
		t.Fatalf("Genesis: %x", s)
	}
	if s := c.Encode(); s != l.bytes() {
		t.Fatalf("Encode: %q, want %q", s, l.bytes())
	}
	l.holdsBlocks(t, c)
	l.holdsState(t, c)
}

// holdsBlocks holds that a chain keeps just a ledger's blocks.
func (l *ledger) holdsBlocks(t *testing.T, c *chain.Chain) {
	t.Helper()
	if n := c.Base(); n != l.base() {
		t.Fatalf("Base: %d, want %d", n, l.base())
	}
	if all := slices.Collect(c.All()); !slices.EqualFunc(all, l.blocks, sameBlock) {
		t.Fatalf("All: %#v, want %#v", all, l.blocks)
	}
	for i, want := range l.blocks {
		if b, e := c.Block(l.base() + 1 + uint64(i)); e != api.OK || !sameBlock(b, want) {
			t.Fatalf("Block(%d): %#v, %d, want %#v", want.Header.Height, b, e, want)
		}
	}
	for _, height := range []uint64{0, l.base(), l.base() / 2, l.height + 1, l.height + 2, l.height + 1<<32, 1<<64 - 1} {
		if l.base() < height && height <= l.height {
			continue
		}
		if b, e := c.Block(height); e != api.ErrNone || !noBlock(b) {
			t.Fatalf("Block(%d): %#v, %d, want ErrNone", height, b, e)
		}
	}
}

// holdsState holds that a chain has just a ledger's state, and proves what texts have and have not.
func (l *ledger) holdsState(t *testing.T, c *chain.Chain) {
	t.Helper()
	if s := c.State(); s.Encode() != l.m.bytes() {
		t.Fatalf("State: %q, want %q", s.Encode(), l.m.bytes())
	}
	root := l.m.root()
	if n := len(l.blocks); n > 0 && l.blocks[n-1].Header.StateRoot != root {
		t.Fatal("the ledger's last block has not the model's root")
	}
	for text, value := range l.m {
		if !smt.Verify(root, text, value, true, c.Prove(text)) || smt.Verify(root, text, "", false, c.Prove(text)) {
			t.Fatalf("the proof of %q is not right", text)
		}
		if got, is := c.Get(text[1:]); text[0] == 'k' && (got != value || !is) {
			t.Fatalf("Get(%q): %q, %t, want %q", text[1:], got, is, value)
		}
	}
	for i := range 20 {
		l.holdsClient(t, c, uint64(i))
		l.holdsNone(t, c, root, "none"+strconv.Itoa(i))
	}
}

// holdsClient holds what a chain tells of a client.
func (l *ledger) holdsClient(t *testing.T, c *chain.Chain, client uint64) {
	t.Helper()
	n, id := c.Last(client)
	if has := l.m["n"+plain8(client)]; has != "" {
		if plain8(n)+id != has {
			t.Fatalf("Last(%d): %d, %x, want %x", client, n, id, has)
		}
	} else if n != 0 || id != "" {
		t.Fatalf("Last(%d): %d, %x, want nothing", client, n, id)
	}
}

// holdsNone holds that a chain shows that a key has nothing.
func (l *ledger) holdsNone(t *testing.T, c *chain.Chain, root, key string) {
	t.Helper()
	if value, is := c.Get(key); value != "" || is {
		t.Fatalf("Get(%q): %q, %t, want nothing", key, value, is)
	}
	if p := c.Prove("k" + key); !smt.Verify(root, "k"+key, "", false, p) || smt.Verify(root, "k"+key, "", true, p) {
		t.Fatalf("the proof of %q is not right", key)
	}
}

// made is a chain and its ledger, behind batches that each may be.
func made(t *testing.T, name string, members []int, l ...api.Batch) (*chain.Chain, *ledger) {
	t.Helper()
	c, e := chain.New(name, members)
	if e != api.OK {
		t.Fatal(e)
	}
	k := begin(name, members...)
	for _, b := range l {
		both(t, c, k, b)
	}
	return c, k
}

// both lays a batch's block behind a chain's and a ledger's others, and holds that they agree: the block.
func both(t *testing.T, c *chain.Chain, l *ledger, b api.Batch) api.Block {
	t.Helper()
	want, wantTold := l.apply(b)
	x, told, e := c.Apply(b)
	if e != api.OK || !sameBlock(x, want) || !slices.Equal(told, wantTold) {
		t.Fatalf("%#v: %#v, %v, %d, want %#v, %v", b, x, told, e, want, wantTold)
	}
	return x
}

// some is batches of all kinds: with nothing, with what can't be done, with who takes part.
func some() []api.Batch {
	return []api.Batch{
		batch(of(1, 1, put("a", "1"), put("b", "2")), of(1, 1, put("a", "2")), of(2, 1, check("a", "2")), of(2, 1, check("a", "1"), del("b"))),
		{},
		conf(0, 1, 2, 5),
		batch(many(api.MaxTxs)...),
		batch(of(1, 9, put("a", "3")), of(7, 1, none("a"))),
		conf(5),
		batch(of(3, 1, put("a", "")), of(3, 2, del("key0"), del("nobody's"))),
		conf(5),
		batch(of(3, 3, put("c", sample(0, api.MaxValue)), put(sample(0, api.MaxKey), "long"))),
	}
}
