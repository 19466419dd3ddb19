package chain_test

import (
	"crypto/sha256"
	"encoding/binary"
	"maps"
	"slices"
	"strconv"
	"strings"

	"muniment/api"
)

func put(key, value string) api.Op   { return api.Op{Kind: api.OpPut, Key: key, Value: value} }
func del(key string) api.Op          { return api.Op{Kind: api.OpDel, Key: key} }
func check(key, value string) api.Op { return api.Op{Kind: api.OpCheck, Key: key, Value: value} }
func none(key string) api.Op         { return api.Op{Kind: api.OpNone, Key: key} }

// of is a client's transaction.
func of(client, nonce uint64, ops ...api.Op) api.Tx {
	return api.Tx{Client: client, Nonce: nonce, Ops: ops}
}

// batch is a batch of transactions.
func batch(l ...api.Tx) api.Batch { return api.Batch{Txs: l} }

// conf is a batch with who takes part from then on.
func conf(members ...int) api.Batch { return api.Batch{Conf: true, Members: members} }

// sample is so many bytes, letters and others, from a place on.
func sample(from, n int) string { return strings.Repeat("\x00\x81\xffmuniment", n/11+3)[from : from+n] }

// digest is one of some unlike texts as long as digests.
func digest(which int) string { return sample(which, api.HashBytes) }

// upTo is the numbers below one, rising.
func upTo(n int) []int {
	var out []int
	for who := range n {
		out = append(out, who)
	}
	return out
}

// many is so many transactions that can be done behind one another in a state without texts, no two alike.
func many(n int) []api.Tx {
	var out []api.Tx
	for i := range n {
		out = append(out, of(uint64(i%3), uint64(i/3+1), put("key"+strconv.Itoa(i%5), sample(i%11, i)), none("nobody's")))
	}
	return out
}

// plain8 is a number of 8 bytes by the library.
func plain8(n uint64) string { return string(binary.BigEndian.AppendUint64(nil, n)) }

// plainCount is a count by the library.
func plainCount(n int) string { return string(binary.BigEndian.AppendUint32(nil, uint32(n))) }

// plainText is a text's bytes by the library.
func plainText(s string) string { return plainCount(len(s)) + s }

// plainTx is a transaction's bytes by the document's words.
func plainTx(x api.Tx) string {
	s := plain8(x.Client) + plain8(x.Nonce) + plainCount(len(x.Ops))
	for _, o := range x.Ops {
		s += string([]byte{byte(o.Kind)}) + plainText(o.Key) + plainText(o.Value)
	}
	return s
}

// plainMembers is the bytes of who takes part.
func plainMembers(l []int) string {
	b := []byte{byte(len(l))}
	for _, who := range l {
		b = append(b, byte(who))
	}
	return string(b)
}

// plainBatch is a batch's bytes by the chapter's words.
func plainBatch(b api.Batch) string {
	if b.Conf {
		return "\x01" + plainMembers(b.Members)
	}
	s := "\x00" + plainCount(len(b.Txs))
	for _, x := range b.Txs {
		s += plainTx(x)
	}
	return s
}

// plainHeader is a header's bytes, if its digests are as long as digests.
func plainHeader(h api.Header) string {
	return plain8(h.Height) + h.Prev + h.TxRoot + h.StateRoot + plainMembers(h.Members)
}

// plainBlock is a block's bytes by the chapter's words.
func plainBlock(b api.Block) string { return plainHeader(b.Header) + plainBatch(batch(b.Txs...)) }

// plainSum is a text's digest by the library.
func plainSum(s string) string {
	sum := sha256.Sum256([]byte(s))
	return string(sum[:])
}

// tagged is the digest of parts for a purpose by the library.
func tagged(purpose string, parts ...string) string {
	for _, p := range parts {
		purpose += plainText(p)
	}
	return plainSum(purpose)
}

// plainRoot is a list's root as RFC 6962 has it.
func plainRoot(l []string) string {
	switch len(l) {
	case 0:
		return plainSum("")
	case 1:
		return plainSum("\x00" + l[0])
	}
	cut := 1
	for 2*cut < len(l) {
		cut *= 2
	}
	return plainSum("\x01" + plainRoot(l[:cut]) + plainRoot(l[cut:]))
}

// plainTxRoot is the root of transactions' bytes.
func plainTxRoot(l []api.Tx) string {
	var texts []string
	for _, x := range l {
		texts = append(texts, plainTx(x))
	}
	return plainRoot(texts)
}

// model is texts and what they have, by the document's words.
type model map[string]string

// apply does a transaction in a model: the model behind it, and what was told; with an error the same one.
func (m model) apply(x api.Tx) (model, api.Errno) {
	out, me := maps.Clone(m), "n"+plain8(x.Client)
	if has := m[me]; has != "" && plain8(x.Nonce-1) != has[:8] || has == "" && x.Nonce != 1 {
		return m, api.ErrNonce
	}
	for _, o := range x.Ops {
		value, is := out["k"+o.Key]
		switch {
		case o.Kind == api.OpPut:
			out["k"+o.Key] = o.Value
		case o.Kind == api.OpDel:
			delete(out, "k"+o.Key)
		case (o.Kind == api.OpCheck) != is || value != o.Value:
			return m, api.ErrCheck
		}
	}
	out[me] = plain8(x.Nonce) + tagged("T", plainTx(x))
	if len(out) > api.MaxKeys {
		return m, api.ErrRoom
	}
	return out, api.OK
}

// exec does transactions in a model: the model behind them, those that were done, and what each was told.
func (m model) exec(l []api.Tx) (model, []api.Tx, []api.Errno) {
	var done []api.Tx
	var told []api.Errno
	for _, x := range l {
		behind, e := m.apply(x)
		m, told = behind, append(told, e)
		if e == api.OK {
			done = append(done, x)
		}
	}
	return m, done, told
}

// root is the sparse tree's root of all texts, by the document's words.
func (m model) root() string {
	var leaves [][2]string
	for text, value := range m {
		leaves = append(leaves, [2]string{tagged("P", text), tagged("V", value)})
	}
	return rootOf(leaves, 0)
}

// rootOf is the digest of leaves below a place so deep.
func rootOf(l [][2]string, depth int) string {
	switch len(l) {
	case 0:
		return string(make([]byte, 32))
	case 1:
		return tagged("L", l[0][0], l[0][1])
	}
	var two [2][][2]string
	for _, x := range l {
		bit := x[0][depth/8] >> (7 - depth%8) & 1
		two[bit] = append(two[bit], x)
	}
	return tagged("J", rootOf(two[0], depth+1), rootOf(two[1], depth+1))
}

// block is the block of a batch by the chapter's words, the model behind it, and what each was told.
func (m model) block(prev string, height uint64, members []int, b api.Batch) (api.Block, model, []api.Errno) {
	behind, done, told := m.exec(b.Txs)
	if b.Conf {
		members = b.Members
	}
	h := api.Header{Height: height, Prev: prev, TxRoot: plainTxRoot(done), StateRoot: behind.root(), Members: slices.Clone(members)}
	return api.Block{Header: h, Txs: done}, behind, told
}

// bytes is a state's bytes by the document's words.
func (m model) bytes() string {
	s := plainCount(len(m))
	for _, text := range slices.Sorted(maps.Keys(m)) {
		s += plainText(text) + plainText(m[text])
	}
	return s
}

// deepTxs is transactions of one's own, made by hand.
func deepTxs(l []api.Tx) []api.Tx {
	var out []api.Tx
	for _, x := range l {
		var ops []api.Op
		for _, o := range x.Ops {
			ops = append(ops, o)
		}
		out = append(out, of(x.Client, x.Nonce, ops...))
	}
	return out
}

// deep is a block of its own, made by hand.
func deep(b api.Block) api.Block {
	var members []int
	for _, who := range b.Header.Members {
		members = append(members, who)
	}
	out := b
	out.Header.Members, out.Txs = members, deepTxs(b.Txs)
	return out
}

// sameTxs tells whether two lists of transactions have the same bytes; kinds beyond a byte are not among them.
func sameTxs(a, b []api.Tx) bool { return plainBatch(batch(a...)) == plainBatch(batch(b...)) }

// sameBlock tells whether two blocks are the same, thing by thing.
func sameBlock(a, b api.Block) bool {
	h, k := a.Header, b.Header
	return h.Height == k.Height && h.Prev == k.Prev && h.TxRoot == k.TxRoot && h.StateRoot == k.StateRoot &&
		slices.Equal(h.Members, k.Members) && sameTxs(a.Txs, b.Txs)
}

// noBlock tells whether a block is the zero value.
func noBlock(b api.Block) bool {
	h := b.Header
	return h.Height == 0 && h.Prev == "" && h.TxRoot == "" && h.StateRoot == "" && len(h.Members) == 0 && len(b.Txs) == 0
}

// wrongMembers is lists that may not be who takes part, and have somebody.
func wrongMembers() [][]int {
	return [][]int{{-1}, {16}, {0, 0}, {1, 0}, {0, 16}, {0, 1, 1}, {0, 2, 1}, {256}, {0, 257}, {-1, 0}, upTo(17), upTo(257)}
}

// wrongTxs is transactions that may not be.
func wrongTxs() []api.Tx {
	return []api.Tx{
		{}, of(1, 1), of(1, 0, put("a", "1")), of(1, 1, slices.Repeat([]api.Op{put("a", "1")}, api.MaxOps+1)...),
		of(1, 1, put("", "1")), of(1, 1, put(sample(0, api.MaxKey+1), "1")), of(1, 1, put("a", sample(0, api.MaxValue+1))),
		of(1, 1, api.Op{Kind: 0, Key: "a"}), of(1, 1, api.Op{Kind: 5, Key: "a"}), of(1, 1, api.Op{Kind: api.OpDel, Key: "a", Value: "1"}),
		of(1, 1, put("a", "1"), api.Op{Kind: api.OpNone, Key: "a", Value: "1"}),
	}
}
