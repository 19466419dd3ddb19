package block_test

import (
	"math/rand"
	"slices"
	"testing"

	"muniment/api"
	"muniment/block"
)

// blocks is blocks that batches made, with Conf, too.
func blocks() []api.Block {
	w, l := some()
	var out []api.Block
	for i, b := range append(l, batch(many(16)...)) {
		x, _, _ := w.m.block(digest(i%10), uint64(i+1)<<(5*i), upTo(1+i), b)
		out = append(out, x)
	}
	x, _, _ := model{}.block(digest(1), 1<<64-1, upTo(16), batch(many(16)...))
	return append(out, x)
}

// Promise 9.3: a block's bytes, written out by hand.
func TestEncodeByHand(t *testing.T) {
	h := api.Header{Height: 258, Prev: "0123456789abcdef0123456789abcdef", TxRoot: "ABCDEFGHIJKLMNOPABCDEFGHIJKLMNOP",
		StateRoot: "abcdefghijklmnopqrstuvwxyzabcdef", Members: []int{0, 3, 15}}
	b := api.Block{Header: h, Txs: []api.Tx{of(3, 258, put("a", "xy"))}}
	want := "\x00\x00\x00\x00\x00\x00\x01\x02" + "0123456789abcdef0123456789abcdef" + "ABCDEFGHIJKLMNOPABCDEFGHIJKLMNOP" +
		"abcdefghijklmnopqrstuvwxyzabcdef" + "\x03\x00\x03\x0f" + "\x00" + "\x00\x00\x00\x01" +
		"\x00\x00\x00\x00\x00\x00\x00\x03" + "\x00\x00\x00\x00\x00\x00\x01\x02" + "\x00\x00\x00\x01" + "\x01\x00\x00\x00\x01a\x00\x00\x00\x02xy"
	if s, e := block.Encode(b); s != want || e != api.OK {
		t.Errorf("%q, %d, want %q", s, e, want)
	}
	if k, e := block.Decode(want); !sameBlock(k, b) || e != api.OK {
		t.Errorf("%#v, %d, want %#v", k, e, b)
	}
}

// Promise 9.3: the header's bytes, and those of a batch without Conf, of a block that a batch with Conf made, too; Decode reads them again.
func TestEncode(t *testing.T) {
	for _, b := range blocks() {
		s, e := block.Encode(b)
		if s != plainBlock(b) || e != api.OK {
			t.Errorf("%#v: %q, %d, want %q", b, s, e, plainBlock(b))
		}
		if k, e := block.Decode(s); !sameBlock(k, b) || e != api.OK {
			t.Errorf("%#v is decoded as %#v, %d", b, k, e)
		}
	}
	w := fresh()
	b, _, _ := block.Make(digest(1), 1, []int{0}, w.s, w.t, conf(0, 1))
	if s, e := block.Encode(b); s != plainHeader(b.Header)+"\x00\x00\x00\x00\x00" || e != api.OK {
		t.Errorf("%q, %d", s, e)
	}
}

// Promise 9.3: head.Check's error, then CheckBatch's, and no bytes; a block need not be right to have bytes.
func TestEncodeOfWhatMayNotBe(t *testing.T) {
	refuses := func(b api.Block, want api.Errno) {
		t.Helper()
		if s, e := block.Encode(b); s != "" || e != want {
			t.Errorf("%#v: %q, %d, want %d", b, s, e, want)
		}
	}
	refuses(api.Block{}, api.ErrHead)
	for _, b := range blocks() {
		for _, h := range wrongHeaders(b.Header) {
			for _, l := range [][]api.Tx{b.Txs, nil, many(17), wrongTxs()[:1]} {
				refuses(api.Block{Header: h, Txs: l}, api.ErrHead)
			}
		}
		for _, n := range []int{17, 18, 300} {
			refuses(api.Block{Header: b.Header, Txs: many(n)}, api.ErrMany)
		}
		for _, x := range wrongTxs() {
			refuses(api.Block{Header: b.Header, Txs: []api.Tx{x}}, api.ErrTx)
			refuses(api.Block{Header: b.Header, Txs: append(many(15), x)}, api.ErrTx)
			refuses(api.Block{Header: b.Header, Txs: append(many(16), x)}, api.ErrMany)
		}
		other := api.Block{Header: b.Header, Txs: []api.Tx{of(77, 12345, check("a", "b"))}}
		if s, e := block.Encode(other); s != plainBlock(other) || e != api.OK {
			t.Errorf("%#v: %q, %d", other, s, e)
		}
	}
}

// undone holds that bytes are no block: the error, and an empty one.
func undone(t *testing.T, s string, want api.Errno) {
	t.Helper()
	if b, e := block.Decode(s); e != want || !noBlock(b) {
		t.Errorf("%.400q: %#v, %d, want the error %d", s, b, e, want)
	}
}

// Promise 9.3: bytes that end at each place are ErrCut, bytes behind are ErrMore.
func TestDecodeOfBytesThatEndOrGoOn(t *testing.T) {
	for _, b := range blocks() {
		s := plainBlock(b)
		for n := range len(s) {
			undone(t, s[:n], api.ErrCut)
		}
		for _, behind := range []string{"\x00", "\x01", "x", s} {
			undone(t, s+behind, api.ErrMore)
		}
	}
}

// Promise 9.3: a batch with Conf behind a header is ErrForm, bytes behind it or not, whoever takes part; one that ends early is ErrCut.
func TestDecodeOfConf(t *testing.T) {
	for _, b := range blocks() {
		for _, l := range [][]int{{0}, {0, 3}, upTo(16), b.Header.Members, nil, {16}, {3, 0}, upTo(17)} {
			s := plainHeader(b.Header) + "\x01" + plainMembers(l)
			undone(t, s, api.ErrForm)
			undone(t, s+"\x00", api.ErrForm)
			undone(t, s+plainBatch(batch(b.Txs...)), api.ErrForm)
		}
		undone(t, plainHeader(b.Header)+"\x01", api.ErrCut)
		undone(t, plainHeader(b.Header)+"\x01\x02\x00", api.ErrCut)
	}
}

// Promise 9.3: the reader's first error: of the header, then of the batch.
func TestDecodeOfWhatMayNotBe(t *testing.T) {
	for _, b := range blocks() {
		h := b.Header
		h.Height = 0
		undone(t, plainHeader(h)+plainBatch(batch(b.Txs...)), api.ErrHead)
		undone(t, plainHeader(h)+"\x02", api.ErrHead)
		undone(t, plainHeader(h), api.ErrHead)
		for _, l := range [][]int{nil, {16}, {0, 0}, {3, 0}, upTo(17)} {
			h := b.Header
			h.Members = l
			undone(t, plainHeader(h)+plainBatch(batch(b.Txs...)), api.ErrForm)
		}
		undone(t, plainHeader(b.Header)+"\x02"+plainCount(0), api.ErrForm)
		undone(t, plainHeader(b.Header)+"\x00"+plainCount(17), api.ErrMany)
		undone(t, plainHeader(b.Header)+plainBatch(batch(many(17)...)), api.ErrMany)
		for _, x := range []api.Tx{of(1, 1), of(1, 0, put("a", "1")), of(1, 1, put("", "1")), of(1, 1, api.Op{Kind: 5, Key: "a"})} {
			undone(t, plainHeader(b.Header)+plainBatch(batch(append(many(3), x)...)), api.ErrTx)
			undone(t, plainHeader(b.Header)+plainBatch(batch(append(many(3), x)...))+"more", api.ErrTx)
		}
	}
}

// Promise 9.3: any bytes are a block or are not; those that are one are just its bytes.
func TestDecodeOfAnyBytes(t *testing.T) {
	d := rand.New(rand.NewSource(93))
	l, right := blocks(), 0
	for range 20000 {
		s := []byte(plainBlock(l[d.Intn(len(l))]))
		for range d.Intn(3) {
			s[d.Intn(len(s))] ^= byte(1 << d.Intn(8))
		}
		b, e := block.Decode(string(s))
		if e != api.OK {
			if !noBlock(b) {
				t.Fatalf("%q: %#v, %d", s, b, e)
			}
			continue
		}
		right++
		if k, e := block.Encode(b); k != string(s) || e != api.OK {
			t.Fatalf("%q is %#v, and that %q, %d", s, b, k, e)
		}
	}
	if right < 5000 {
		t.Errorf("%d were right", right)
	}
}

// otherBlocks is blocks that differ from a given one in one thing alone.
func otherBlocks(b api.Block) []api.Block {
	var out []api.Block
	for _, h := range append(otherHeaders(b.Header), wrongHeaders(b.Header)...) {
		out = append(out, api.Block{Header: h, Txs: b.Txs})
	}
	add := func(change func(k *api.Block)) {
		k := deep(b)
		change(&k)
		out = append(out, k)
	}
	add(func(k *api.Block) { k.Header.Members[len(k.Header.Members)-1]++ })
	add(func(k *api.Block) { k.Header.Members = append(k.Header.Members, 99) })
	add(func(k *api.Block) { k.Header.Members = k.Header.Members[1:] })
	add(func(k *api.Block) { k.Txs = append(k.Txs, of(1, 1, put("a", "1"))) })
	add(func(k *api.Block) { k.Txs = append(k.Txs, api.Tx{}) })
	for i, x := range b.Txs {
		add(func(k *api.Block) { k.Txs = slices.Delete(k.Txs, i, i+1) })
		add(func(k *api.Block) { k.Txs[i].Client++ })
		add(func(k *api.Block) { k.Txs[i].Nonce++ })
		add(func(k *api.Block) { k.Txs[i].Ops = append(k.Txs[i].Ops, put("a", "1")) })
		for j := range x.Ops {
			add(func(k *api.Block) { k.Txs[i].Ops[j].Kind++ })
			add(func(k *api.Block) { k.Txs[i].Ops[j].Key += "\x00" })
			add(func(k *api.Block) { k.Txs[i].Ops[j].Value += "\x00" })
			add(func(k *api.Block) { k.Txs[i].Ops = slices.Delete(k.Txs[i].Ops, j, j+1) })
		}
		if i > 0 {
			add(func(k *api.Block) { k.Txs[i], k.Txs[i-1] = k.Txs[i-1], k.Txs[i] })
		}
	}
	return out
}

// Promise 9.3: Same of blocks that are the same, and of such where each thing alone is another one.
func TestSame(t *testing.T) {
	l := blocks()
	for i, b := range l {
		if !block.Same(b, b) || !block.Same(b, deep(b)) || !block.Same(deep(b), b) {
			t.Errorf("%#v", b)
		}
		for _, k := range otherBlocks(b) {
			if sameBlock(b, k) {
				continue // two that were swapped, and are the same
			}
			if block.Same(b, k) || block.Same(k, b) {
				t.Errorf("%#v, %#v", b, k)
			}
		}
		for j, k := range l {
			if i != j && (block.Same(b, k) || block.Same(k, b)) {
				t.Errorf("%#v, %#v", b, k)
			}
		}
	}
}

// Promise 9.3 and rule R3: lists that are nil and lists that are empty are the same.
func TestSameOfEmptyLists(t *testing.T) {
	var l []api.Block
	for _, members := range [][]int{nil, {}} {
		for _, txs := range [][]api.Tx{nil, {}} {
			l = append(l, api.Block{Header: api.Header{Height: 1, Members: members}, Txs: txs})
		}
	}
	for _, a := range l {
		for _, b := range l {
			if !block.Same(a, b) {
				t.Errorf("%#v, %#v", a, b)
			}
		}
	}
	a, b := api.Block{Txs: []api.Tx{{Client: 1}}}, api.Block{Txs: []api.Tx{{Client: 1, Ops: []api.Op{}}}}
	if !block.Same(a, b) || !block.Same(b, a) || !block.Same(api.Block{}, api.Block{}) {
		t.Errorf("%#v, %#v", a, b)
	}
}

// scramble changes all lists of a block where they stand.
func scramble(b api.Block) {
	for i := range b.Txs {
		for j := range b.Txs[i].Ops {
			b.Txs[i].Ops[j] = put("changed", "changed")
		}
		b.Txs[i].Ops = append(b.Txs[i].Ops[:0], del("changed"))
		b.Txs[i] = api.Tx{Client: 12345}
	}
	for i := range b.Header.Members {
		b.Header.Members[i] = 77
	}
}

// Promise 9.3 and rule R2: a clone is the same, and its own: its lists may be changed, and its elder's may.
func TestClone(t *testing.T) {
	for _, b := range append(blocks(), api.Block{}, api.Block{Txs: wrongTxs()}) {
		before, elder := deep(b), deep(b)
		clone := block.Clone(elder)
		if !sameBlock(clone, before) || !sameBlock(elder, before) {
			t.Fatalf("%#v, want %#v", clone, before)
		}
		scramble(clone)
		if !sameBlock(elder, before) {
			t.Errorf("%#v, want %#v", elder, before)
		}
		clone = block.Clone(elder)
		scramble(elder)
		if !sameBlock(clone, before) {
			t.Errorf("%#v, want %#v", clone, before)
		}
	}
	elder := deep(blocks()[0])
	elder.Txs = append(make([]api.Tx, 0, 9), many(2)...) // room behind the list is not shared
	clone := block.Clone(elder)
	_ = append(clone.Txs, of(1, 1))
	if x := elder.Txs[:3][2]; x.Client != 0 || x.Nonce != 0 {
		t.Errorf("%#v", x)
	}
}

// Rule R2: what is handed in to Encode and Same is not changed, and what Decode answers is the caller's own.
func TestBlocksAreTheCallersOwn(t *testing.T) {
	for _, b := range blocks() {
		before := deep(b)
		s, _ := block.Encode(b)
		block.Same(b, before)
		if !sameBlock(b, before) {
			t.Fatalf("%#v, was %#v", b, before)
		}
		x, _ := block.Decode(s)
		scramble(x)
		if y, e := block.Decode(s); !sameBlock(y, before) || e != api.OK {
			t.Errorf("%#v, %d, want %#v", y, e, before)
		}
	}
}
